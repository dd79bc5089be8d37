/-
  Plain mathematics of 64-bit words, of no program: how many one bits a number has below a place ('cnt'), that the parallel sum of adjacent bits counts them, that the exchange of ever greater groups turns a word round. Numbers are natural numbers; no condition but what each theorem names. Plain mathematics of bit vectors laid in words of 64 bits, of no program: the bits, how many of them are one, what makes a vector valid. Words for memory, of no program: a slice that holds a list of one-cell values (nil let in), what becomes of it where new memory is made. Plain mathematics of bools laid in words of 64 bits, of no program: the words after i of them are laid, one step more, what bits they have. Words for memory, of no program: rows that a call owns, where other blocks are made or written. Numbers as cells, of no program. Plain mathematics of distinct numbers in increasing order, and of ranks. Plain mathematics of wavelet matrices, of no program: the numbers of a matrix, where a level sends the numbers of a range, how many numbers of a range are less than or equal to a number, the one with index k in the sorted range, the matrix of a list. 'append' of one cell, or of a slice, to a slice of the call's own: where the new slice lies. 'append' of one struct, of no program. No condition but what each theorem names.
-/
import Derived.Laws.Bits64b
import Derived.Laws.BitsAllLaws
import Derived.Laws.BitsLemmas
import Derived.RowKit
import Derived.Below
import Derived.Laws.OwnMore
import Derived.Deep.Draws
import Derived.Lib.Hide
import Derived.Calls
import Derived.OwnWalk
import Derived.Laws.MakeOwn
import Derived.Laws.AppendOwnNone
import Derived.Deep.QuietTactic
import Derived.Lib.SlicesCompact
import Derived.Maps.AppendAt
namespace Go.Proofs.Ytpkclmfadlkbeaa.Words
open Go Go.RowKit

/-- How many of the bits 0 .. k-1 of x are one. -/
def cnt (x : Nat) : Nat → Nat
  | 0 => 0
  | k + 1 => cnt x k + (x.testBit k).toNat

theorem cnt_le (x k : Nat) : cnt x k ≤ k := by
  induction k with
  | zero => simp [cnt]
  | succ k ih => simp only [cnt]; cases x.testBit k <;> simp <;> omega

theorem cnt_succ (x k : Nat) : cnt x (k + 1) = cnt x k + (x.testBit k).toNat := rfl

theorem cnt_mono (x k m : Nat) (h : k ≤ m) : cnt x k ≤ cnt x m := by
  induction m with
  | zero => have : k = 0 := by omega
            subst this; exact Nat.le_refl _
  | succ m ih =>
    by_cases e : k = m + 1
    · subst e; exact Nat.le_refl _
    · have := ih (by omega); rw [cnt_succ]; omega

theorem cnt_congr (x y k : Nat) (h : ∀ i, i < k → x.testBit i = y.testBit i) : cnt x k = cnt y k := by
  induction k with
  | zero => rfl
  | succ k ih => rw [cnt_succ, cnt_succ, ih (fun i hi => h i (by omega)), h k (by omega)]

theorem cnt_add (x a b : Nat) : cnt x (a + b) = cnt x a + cnt (x / 2 ^ a) b := by
  induction b with
  | zero => simp [cnt]
  | succ b ih => rw [← Nat.add_assoc, cnt_succ, cnt_succ, ih, Nat.testBit_div_two_pow]; rw [Nat.add_comm b a]; omega

theorem cnt_mod (x a : Nat) : cnt (x % 2 ^ a) a = cnt x a :=
  cnt_congr _ _ _ fun i hi => by rw [Nat.testBit_mod_two_pow]; simp [hi]

/-- Behind a cut at i there is nothing more. -/
theorem cnt_cut (x i k : Nat) (h : i ≤ k) : cnt (x % 2 ^ i) k = cnt x i := by
  obtain ⟨d, rfl⟩ : ∃ d, k = i + d := ⟨k - i, by omega⟩
  rw [cnt_add, cnt_mod]
  have hz : x % 2 ^ i / 2 ^ i = 0 := Nat.div_eq_of_lt (Nat.mod_lt _ (Nat.two_pow_pos i))
  rw [hz]
  have : ∀ d, cnt 0 d = 0 := by
    intro d
    induction d with
    | zero => rfl
    | succ d ih => rw [cnt_succ, ih]; simp
  rw [this]; rfl

theorem cnt_zero_of (x k : Nat) (h : cnt x k = 0) : ∀ i, i < k → x.testBit i = false := by
  induction k with
  | zero => intro i hi; omega
  | succ k ih =>
    rw [cnt_succ] at h
    intro i hi
    by_cases e : i = k
    · subst e; cases hb : x.testBit i
      · rfl
      · rw [hb] at h; simp at h
    · exact ih (by omega) i (by omega)

/-! ### The parallel sum -/

def mk (c : Nat) : Nat → Nat
  | 0 => 0
  | n + 1 => c + 256 * mk c n

theorem and_split (a c m : Nat) (hc : c < 256) : a &&& (c + 256 * m) = ((a % 256) &&& c) + 256 * ((a / 256) &&& m) := by
  have h1 : (a &&& (c + 256 * m)) % 2 ^ 8 = a % 2 ^ 8 &&& (c + 256 * m) % 2 ^ 8 := Nat.and_mod_two_pow
  have h2 : (a &&& (c + 256 * m)) / 2 ^ 8 = a / 2 ^ 8 &&& (c + 256 * m) / 2 ^ 8 := Nat.and_div_two_pow
  have e1 : (c + 256 * m) % 2 ^ 8 = c := by omega
  have e2 : (c + 256 * m) / 2 ^ 8 = m := by omega
  rw [e1] at h1
  rw [e2] at h2
  have e3 : a % 2 ^ 8 = a % 256 := by omega
  have e4 : a / 2 ^ 8 = a / 256 := by omega
  rw [e3] at h1
  rw [e4] at h2
  omega

def a1 (b : Nat) : Nat := (b / 2 &&& 85) + (b &&& 85)
def a2 (b : Nat) : Nat := (b / 4 &&& 51) + (b &&& 51)
def s1 (n x : Nat) : Nat := (x / 2 &&& mk 85 n) + (x &&& mk 85 n)
def s2 (n x : Nat) : Nat := (x / 4 &&& mk 51 n) + (x &&& mk 51 n)
def s3 (n x : Nat) : Nat := (x / 16 + x) &&& mk 15 n

theorem cross1 : ∀ v : Fin 512, (v.val / 2 &&& 85) = (v.val % 256 / 2 &&& 85) := by decide +kernel
theorem cross2 : ∀ v : Fin 1024, (v.val / 4 &&& 51) = (v.val % 256 / 4 &&& 51) := by decide +kernel
theorem bytes : ∀ b : Fin 256, a1 b.val < 256 ∧ a2 (a1 b.val) % 16 ≤ 4 ∧ a2 (a1 b.val) / 16 ≤ 4 ∧ a2 (a1 b.val) / 16 + a2 (a1 b.val) % 16 = cnt b.val 8 := by decide +kernel

theorem s1_succ (n x : Nat) : s1 (n + 1) x = a1 (x % 256) + 256 * s1 n (x / 256) := by
  unfold s1 a1
  rw [mk, and_split _ _ _ (by decide), and_split _ _ _ (by decide)]
  have h := cross1 ⟨x % 512, Nat.mod_lt _ (by decide)⟩
  simp only at h
  have e1 : x % 512 / 2 = x / 2 % 256 := by omega
  have e2 : x % 512 % 256 = x % 256 := by omega
  have e3 : x / 2 / 256 = x / 256 / 2 := by omega
  rw [e1, e2] at h
  rw [h, e3]
  omega

theorem s2_succ (n x : Nat) : s2 (n + 1) x = a2 (x % 256) + 256 * s2 n (x / 256) := by
  unfold s2 a2
  rw [mk, and_split _ _ _ (by decide), and_split _ _ _ (by decide)]
  have h := cross2 ⟨x % 1024, Nat.mod_lt _ (by decide)⟩
  simp only at h
  have e1 : x % 1024 / 4 = x / 4 % 256 := by omega
  have e2 : x % 1024 % 256 = x % 256 := by omega
  have e3 : x / 4 / 256 = x / 256 / 4 := by omega
  rw [e1, e2] at h
  rw [h, e3]
  omega

theorem s12_succ (n x : Nat) : s2 (n + 1) (s1 (n + 1) x) = a2 (a1 (x % 256)) + 256 * s2 n (s1 n (x / 256)) := by
  have hb := (bytes ⟨x % 256, Nat.mod_lt _ (by decide)⟩).1
  simp only at hb
  rw [s2_succ, s1_succ]
  have e1 : (a1 (x % 256) + 256 * s1 n (x / 256)) % 256 = a1 (x % 256) := by omega
  have e2 : (a1 (x % 256) + 256 * s1 n (x / 256)) / 256 = s1 n (x / 256) := by omega
  rw [e1, e2]

theorem s12_low (n x : Nat) : s2 n (s1 n x) % 16 ≤ 4 := by
  cases n with
  | zero => simp [s2, mk]
  | succ n =>
    rw [s12_succ]
    have hb := (bytes ⟨x % 256, Nat.mod_lt _ (by decide)⟩).2.1
    simp only at hb
    omega

theorem s123_succ (n x : Nat) : s3 (n + 1) (s2 (n + 1) (s1 (n + 1) x)) = cnt (x % 256) 8 + 256 * s3 n (s2 n (s1 n (x / 256))) := by
  have hl := s12_low n (x / 256)
  rw [s12_succ]
  obtain ⟨_, hb1, hb2, hb3⟩ := bytes ⟨x % 256, Nat.mod_lt _ (by decide)⟩
  simp only at hb1 hb2 hb3
  rw [← hb3]
  generalize a2 (a1 (x % 256)) = t at *
  generalize s2 n (s1 n (x / 256)) = y at *
  unfold s3
  rw [mk, and_split _ _ _ (by decide), nat_mask4]
  have e1 : ((t + 256 * y) / 16 + (t + 256 * y)) % 256 % 16 = t / 16 + t % 16 := by omega
  have e2 : ((t + 256 * y) / 16 + (t + 256 * y)) / 256 = y / 16 + y := by omega
  rw [e1, e2]

theorem cnt_bytes (x n : Nat) : cnt x (8 + n) = cnt (x % 256) 8 + cnt (x / 256) n := by
  rw [cnt_add]; rw [← cnt_mod x 8]

/-- The eight bytes' counts, as they lie behind the third step. -/
theorem s123_eight (x : Nat) : ∃ p0 p1 p2 p3 p4 p5 p6 p7 : Nat, p0 ≤ 8 ∧ p1 ≤ 8 ∧ p2 ≤ 8 ∧ p3 ≤ 8 ∧ p4 ≤ 8 ∧ p5 ≤ 8 ∧ p6 ≤ 8 ∧ p7 ≤ 8 ∧
    s3 8 (s2 8 (s1 8 x)) = p0 + 256 * (p1 + 256 * (p2 + 256 * (p3 + 256 * (p4 + 256 * (p5 + 256 * (p6 + 256 * p7)))))) ∧ cnt x 64 = p0 + (p1 + (p2 + (p3 + (p4 + (p5 + (p6 + p7)))))) := by
  refine ⟨cnt (x % 256) 8, cnt (x / 256 % 256) 8, cnt (x / 256 / 256 % 256) 8, cnt (x / 256 / 256 / 256 % 256) 8, cnt (x / 256 / 256 / 256 / 256 % 256) 8, cnt (x / 256 / 256 / 256 / 256 / 256 % 256) 8, cnt (x / 256 / 256 / 256 / 256 / 256 / 256 % 256) 8, cnt (x / 256 / 256 / 256 / 256 / 256 / 256 / 256 % 256) 8, cnt_le _ 8, cnt_le _ 8, cnt_le _ 8, cnt_le _ 8, cnt_le _ 8, cnt_le _ 8, cnt_le _ 8, cnt_le _ 8, ?_, ?_⟩
  · rw [s123_succ, s123_succ, s123_succ, s123_succ, s123_succ, s123_succ, s123_succ, s123_succ]
    simp [s3, mk]
  · rw [cnt_bytes x 56, cnt_bytes _ 48, cnt_bytes _ 40, cnt_bytes _ 32, cnt_bytes _ 24, cnt_bytes _ 16, cnt_bytes _ 8, ← cnt_mod (x / 256 / 256 / 256 / 256 / 256 / 256 / 256) 8]

theorem swar_end (p0 p1 p2 p3 p4 p5 p6 p7 y : Nat) (b0 : p0 ≤ 8) (b1 : p1 ≤ 8) (b2 : p2 ≤ 8) (b3 : p3 ≤ 8) (b4 : p4 ≤ 8) (b5 : p5 ≤ 8) (b6 : p6 ≤ 8) (b7 : p7 ≤ 8)
    (e : y = p0 + 256 * (p1 + 256 * (p2 + 256 * (p3 + 256 * (p4 + 256 * (p5 + 256 * (p6 + 256 * p7))))))) :
    ∃ r, y + y / 256 + (y + y / 256) / 65536 + (y + y / 256 + (y + y / 256) / 65536) / 4294967296 = r ∧ r < 9223372036854775808 ∧ r % 128 = p0 + (p1 + (p2 + (p3 + (p4 + (p5 + (p6 + p7)))))) := by
  obtain ⟨Y4, h4⟩ : ∃ Y, Y = p4 + 256 * (p5 + 256 * (p6 + 256 * p7)) := ⟨_, rfl⟩
  obtain ⟨Y3, h3⟩ : ∃ Y, Y = p3 + 256 * Y4 := ⟨_, rfl⟩
  obtain ⟨Y2, h2⟩ : ∃ Y, Y = p2 + 256 * Y3 := ⟨_, rfl⟩
  obtain ⟨Y5, h5⟩ : ∃ Y, Y = p5 + 256 * (p6 + 256 * p7) := ⟨_, rfl⟩
  rw [← h4, ← h3, ← h2] at e
  have e1 : y / 256 = p1 + 256 * Y2 := by omega
  have e2 : (y + y / 256) / 65536 = Y2 + Y3 := by rw [e1]; omega
  have h6 : Y4 = p4 + 256 * Y5 := by omega
  have hlow : y + y / 256 + (y + y / 256) / 65536 = (p0 + p1 + p2 + p3) + 256 * (p1 + p2 + p3 + p4) + 65536 * (p2 + p3 + 256 * (p3 + p4) + (Y4 + Y5)) + 4294967296 * (Y4 + Y5) := by rw [e2, e1]; omega
  have h45 : Y4 + Y5 = (p4 + p5) + 256 * (p5 + p6) + 65536 * (p6 + 256 * p7 + p7) := by omega
  obtain ⟨T, hT⟩ : ∃ T, T = p6 + 256 * p7 + p7 := ⟨_, rfl⟩
  rw [← hT] at h45
  have e3 : (y + y / 256 + (y + y / 256) / 65536) / 4294967296 = Y4 + Y5 + T := by rw [hlow, h45]; clear hlow e e1 e2 h2 h3 h4 h5 h6; omega
  rw [e3, hlow]
  refine ⟨_, rfl, ?_, ?_⟩
  · rw [h45]; clear hlow e e1 e2 e3 h2 h3 h4 h5 h6 h45; omega
  · rw [h45, hT]; clear hlow e e1 e2 e3 h2 h3 h4 h5 h6 h45; omega

theorem mk85 : mk 85 8 = 6148914691236517205 := by decide
theorem mk51 : mk 51 8 = 3689348814741910323 := by decide
theorem mk15 : mk 15 8 = 1085102592571150095 := by decide

theorem wrap_sum (a b : Nat) (h : a + b < 18446744073709551616) : IntKind.u64.wrap ((a : Int) + (b : Int)) = ((a + b : Nat) : Int) := by
  rw [IntKind.wrap_u64]; omega

theorem i64_in63 (n : Int) (h0 : 0 ≤ n) (h : n < 2 ^ 63) : IntKind.i64.wrap n = n := by
  have h' : n < 9223372036854775808 := h
  rw [IntKind.wrap_i64]; omega

theorem and127 (r : Nat) (h : r < 9223372036854775808) : bits BinOp.and IntKind.i64 (wrap64 (r : Int)) 127 = ((r % 128 : Nat) : Int) := by
  have hw : wrap64 (r : Int) = (r : Int) := by unfold wrap64; omega
  have h0 : (0 : Int) ≤ (r : Int) := by omega
  have h1 : (r : Int) < 9223372036854775808 := by omega
  have hm := bits_mask .i64 63 (by decide) i64_in63 7 (by decide) (r : Int) h0 h1
  rw [hw]
  have hm2 : bits BinOp.and IntKind.i64 (r : Int) 127 = (r : Int) % 128 := hm
  rw [hm2]; omega

/-- What the Go text computes of x, step by step, is the count. -/
theorem ones_steps (x : Nat) (hx : x < 18446744073709551616) : ∃ y1 y2 y3 y4 y5 y6 : Nat,
    IntKind.u64.wrap (bits BinOp.and IntKind.u64 ((x : Int) / 2) 6148914691236517205 + bits BinOp.and IntKind.u64 (x : Int) 6148914691236517205) = (y1 : Int) ∧
    IntKind.u64.wrap (bits BinOp.and IntKind.u64 ((y1 : Int) / 4) 3689348814741910323 + bits BinOp.and IntKind.u64 (y1 : Int) 3689348814741910323) = (y2 : Int) ∧
    bits BinOp.and IntKind.u64 (IntKind.u64.wrap ((y2 : Int) / 16 + (y2 : Int))) 1085102592571150095 = (y3 : Int) ∧
    IntKind.u64.wrap ((y3 : Int) + (y3 : Int) / 256) = (y4 : Int) ∧
    IntKind.u64.wrap ((y4 : Int) + (y4 : Int) / 65536) = (y5 : Int) ∧
    IntKind.u64.wrap ((y5 : Int) + (y5 : Int) / 4294967296) = (y6 : Int) ∧
    bits BinOp.and IntKind.i64 (wrap64 (y6 : Int)) 127 = (cnt x 64 : Int) := by
  obtain ⟨p0, p1, p2, p3, p4, p5, p6, p7, b0, b1, b2, b3, b4, b5, b6, b7, e, ec⟩ := s123_eight x
  have l1 : x / 2 &&& mk 85 8 ≤ mk 85 8 := Nat.and_le_right
  have l2 : x &&& mk 85 8 ≤ mk 85 8 := Nat.and_le_right
  have l3 : s1 8 x / 4 &&& mk 51 8 ≤ mk 51 8 := Nat.and_le_right
  have l4 : s1 8 x &&& mk 51 8 ≤ mk 51 8 := Nat.and_le_right
  rw [mk85] at l1 l2
  rw [mk51] at l3 l4
  have d1 : s1 8 x = (x / 2 &&& 6148914691236517205) + (x &&& 6148914691236517205) := by unfold s1; rw [mk85]
  have d2 : s2 8 (s1 8 x) = (s1 8 x / 4 &&& 3689348814741910323) + (s1 8 x &&& 3689348814741910323) := by unfold s2; rw [mk51]
  have d3 : s3 8 (s2 8 (s1 8 x)) = (s2 8 (s1 8 x) / 16 + s2 8 (s1 8 x)) &&& 1085102592571150095 := by unfold s3; rw [mk15]
  generalize s3 8 (s2 8 (s1 8 x)) = y3 at *
  generalize s2 8 (s1 8 x) = y2 at *
  generalize s1 8 x = y1 at *
  have i1 : ((x : Int) / 2) = ((x / 2 : Nat) : Int) := by omega
  have i2 : ((y1 : Int) / 4) = ((y1 / 4 : Nat) : Int) := by omega
  have i3 : IntKind.u64.wrap ((y2 : Int) / 16 + (y2 : Int)) = ((y2 / 16 + y2 : Nat) : Int) := by rw [IntKind.wrap_u64]; omega
  have n1 := bits_and_u64_nat (x / 2) 6148914691236517205 (by omega) (by decide)
  have n2 := bits_and_u64_nat x 6148914691236517205 hx (by decide)
  have n3 := bits_and_u64_nat (y1 / 4) 3689348814741910323 (by omega) (by decide)
  have n4 := bits_and_u64_nat y1 3689348814741910323 (by omega) (by decide)
  have n5 := bits_and_u64_nat (y2 / 16 + y2) 1085102592571150095 (by omega) (by decide)
  refine ⟨y1, y2, y3, y3 + y3 / 256, y3 + y3 / 256 + (y3 + y3 / 256) / 65536, y3 + y3 / 256 + (y3 + y3 / 256) / 65536 + (y3 + y3 / 256 + (y3 + y3 / 256) / 65536) / 4294967296, ?_, ?_, ?_, ?_, ?_, ?_, ?_⟩
  · rw [i1]; erw [n1, n2]; rw [wrap_sum _ _ (by omega), ← d1]
  · rw [i2]; erw [n3, n4]; rw [wrap_sum _ _ (by omega), ← d2]
  · rw [i3]; erw [n5]; rw [d3]
  all_goals clear d1 d2 d3 n1 n2 n3 n4 n5 i1 i2 i3 l1 l2 l3 l4
  all_goals
    have hr := swar_end p0 p1 p2 p3 p4 p5 p6 p7 y3 b0 b1 b2 b3 b4 b5 b6 b7 e
    rw [← ec] at hr
    clear e ec b0 b1 b2 b3 b4 b5 b6 b7
    obtain ⟨r, hr0, hr1, hr2⟩ := hr
    generalize h4 : y3 / 256 = d4 at *
    generalize h5 : (y3 + d4) / 65536 = d5 at *
    generalize h6 : (y3 + d4 + d5) / 4294967296 = d6 at *
  · rw [show ((y3 : Int) / 256) = ((d4 : Nat) : Int) by omega]; exact wrap_sum _ _ (by omega)
  · rw [show (((y3 + d4 : Nat) : Int) / 65536) = ((d5 : Nat) : Int) by omega]; exact wrap_sum _ _ (by omega)
  · rw [show (((y3 + d4 + d5 : Nat) : Int) / 4294967296) = ((d6 : Nat) : Int) by omega]; exact wrap_sum _ _ (by omega)
  · rw [hr0, and127 r hr1, hr2]

/-! ### Single bits, and the mask of the low bits -/

theorem bit_one (x i : Nat) (hx : x < 18446744073709551616) : (bits BinOp.and IntKind.u64 ((x : Int) / 2 ^ i) 1 == 1) = x.testBit i := by
  have e : ((x : Int) / 2 ^ i) = ((x / 2 ^ i : Nat) : Int) := by simp
  have hl : x / 2 ^ i < 18446744073709551616 := Nat.lt_of_le_of_lt (Nat.div_le_self _ _) hx
  have h := bits_and_u64_nat (x / 2 ^ i) 1 hl (by decide)
  rw [e]
  have h2 : bits BinOp.and IntKind.u64 ((x / 2 ^ i : Nat) : Int) 1 = ((x / 2 ^ i &&& 1 : Nat) : Int) := h
  rw [h2, nat_mask1, Nat.testBit_eq_decide_div_mod_eq]
  by_cases h1 : x / 2 ^ i % 2 = 1
  · simp [h1]
  · have h0 : x / 2 ^ i % 2 = 0 := by omega
    simp [h0]

theorem low_mask (x i : Nat) (hx : x < 18446744073709551616) (hi : i ≤ 64) :
    bits BinOp.and IntKind.u64 (x : Int) (IntKind.u64.wrap (IntKind.u64.wrap (2 ^ i) - 1)) = ((x % 2 ^ i : Nat) : Int) := by
  have key : IntKind.u64.wrap (IntKind.u64.wrap (2 ^ i) - 1) = ((2 ^ i - 1 : Nat) : Int) := by
    have hp : 2 ^ i ≤ 9223372036854775808 ∨ 2 ^ i = 18446744073709551616 := by
      by_cases h : i = 64
      · right; rw [h]
      · left; exact Nat.pow_le_pow_right (n := 2) (j := 63) (by decide) (by omega)
    have h1 : 1 ≤ 2 ^ i := Nat.one_le_two_pow
    have e : ((2 : Int) ^ i) = ((2 ^ i : Nat) : Int) := by simp
    rw [e, IntKind.wrap_u64, IntKind.wrap_u64]
    generalize 2 ^ i = p at *
    omega
  have hlt : 2 ^ i - 1 < 18446744073709551616 := by
    have hp : 2 ^ i ≤ 2 ^ 64 := Nat.pow_le_pow_right (by decide) hi
    omega
  rw [key, bits_and_u64_nat x _ hx hlt, Nat.and_two_pow_sub_one_eq_mod]

theorem mod_lt_word (x i : Nat) (hx : x < 18446744073709551616) : x % 2 ^ i < 18446744073709551616 := Nat.lt_of_le_of_lt (Nat.mod_le _ _) hx
end Go.Proofs.Ytpkclmfadlkbeaa.Words

namespace Go.Proofs.Ytpkclmfadlkbeaa.Words
open Go Go.RowKit

/-- How many of the numbers below n have the property. -/
def tally (p : Nat → Bool) : Nat → Nat
  | 0 => 0
  | n + 1 => tally p n + (p n).toNat

theorem tally_succ (p : Nat → Bool) (n : Nat) : tally p (n + 1) = tally p n + (p n).toNat := rfl
theorem tally_le (p : Nat → Bool) (n : Nat) : tally p n ≤ n := by
  induction n with
  | zero => simp [tally]
  | succ n ih => simp only [tally]; cases p n <;> simp <;> omega
theorem tally_congr {p q : Nat → Bool} {n : Nat} (h : ∀ i, i < n → p i = q i) : tally p n = tally q n := by
  induction n with
  | zero => rfl
  | succ n ih => rw [tally, tally, ih fun i hi => h i (by omega), h n (by omega)]
theorem tally_add (p : Nat → Bool) (a b : Nat) : tally p (a + b) = tally p a + tally (fun i => p (a + i)) b := by
  induction b with
  | zero => rfl
  | succ b ih => rw [← Nat.add_assoc, tally, tally, ih]; omega
theorem tally_mono (p : Nat → Bool) {a b : Nat} (h : a ≤ b) : tally p a ≤ tally p b := by
  obtain ⟨c, rfl⟩ := Nat.exists_eq_add_of_le h
  rw [tally_add]; omega
theorem tally_not (p : Nat → Bool) (n : Nat) : tally p n + tally (fun i => !p i) n = n := by
  induction n with
  | zero => rfl
  | succ n ih => rw [tally, tally]; cases p n <;> simp <;> omega
theorem cnt_tally (x k : Nat) : cnt x k = tally x.testBit k := by
  induction k with
  | zero => rfl
  | succ k ih => rw [cnt, tally, ih]

/-- Bit i of the vector. -/
def bit (ws : List Nat) (i : Nat) : Bool := (ws.getD (i / 64) 0).testBit (i % 64)

theorem bit_word (ws : List Nat) (j k : Nat) (hk : k < 64) : bit ws (64 * j + k) = (ws.getD j 0).testBit k := by
  unfold bit
  rw [show (64 * j + k) / 64 = j by omega, show (64 * j + k) % 64 = k by omega]

theorem tally_word (ws : List Nat) (j m : Nat) (hm : m ≤ 64) : tally (bit ws) (64 * j + m) = tally (bit ws) (64 * j) + cnt (ws.getD j 0) m := by
  rw [tally_add, cnt_tally]
  congr 1
  exact tally_congr fun i hi => bit_word ws j i (by omega)

/-- One word more. -/
theorem tally_step (ws : List Nat) (r j : Nat) : tally (bit ws) (min r (64 * (j + 1))) = tally (bit ws) (min r (64 * j)) + cnt (ws.getD j 0) (min (r - 64 * j) 64) := by
  by_cases h : r ≤ 64 * j
  · rw [show min r (64 * (j + 1)) = r by omega, show min r (64 * j) = r by omega, show min (r - 64 * j) 64 = 0 by omega]; rfl
  · rw [show min r (64 * (j + 1)) = 64 * j + min (r - 64 * j) 64 by omega, show min r (64 * j) = 64 * j by omega]
    exact tally_word ws j _ (by omega)

/-- What makes a vector of n bits valid. -/
structure Valid (n : Nat) (ws : List Nat) : Prop where
  hi : n ≤ 4096
  len : ws.length = (n + 63) / 64
  top : ∀ i, n ≤ i → i < 64 * ws.length → bit ws i = false

theorem andNot_mask (x m : Nat) (hx : x < 18446744073709551616) (hm : m ≤ 64) : bits .andNot .u64 (x : Int) ((2 ^ m - 1 : Nat) : Int) = ((x / 2 ^ m * 2 ^ m : Nat) : Int) := by
  have hp : 2 ^ m ≤ 2 ^ 64 := Nat.pow_le_pow_right (by decide) hm
  have h1 : 1 ≤ 2 ^ m := Nat.one_le_two_pow
  rw [u64_andNot_nat x _ hx (by omega)]
  congr 1
  apply Nat.eq_of_testBit_eq
  intro i
  rw [Nat.testBit_and, Nat.testBit_mul_two_pow, Nat.testBit_div_two_pow, show 18446744073709551615 - (2 ^ m - 1) = 2 ^ 64 - (2 ^ m - 1 + 1) by omega, Nat.testBit_two_pow_sub_succ (by omega), Nat.testBit_two_pow_sub_one]
  by_cases h : i < 64
  · by_cases h2 : m ≤ i
    · simp [h, h2, show ¬ i < m by omega]
    · simp [h2, show i < m by omega]
  · have hb : x.testBit i = false := Nat.testBit_lt_two_pow (Nat.lt_of_lt_of_le (show x < 2 ^ 64 from hx) (Nat.pow_le_pow_right (by decide) (by omega)))
    by_cases h2 : m ≤ i
    · simp [h, hb, h2]
    · simp [h2, hb]

theorem mask_lt (m : Nat) (hm : m ≤ 64) : 2 ^ m - 1 < 18446744073709551616 := by
  have hp : 2 ^ m ≤ 2 ^ 64 := Nat.pow_le_pow_right (by decide) hm
  omega

/-- Nothing beyond m, bit by bit. -/
theorem high_zero (x m : Nat) (hx : x < 18446744073709551616) : x / 2 ^ m * 2 ^ m = 0 ↔ ∀ i, m ≤ i → i < 64 → x.testBit i = false := by
  have h1 : 0 < 2 ^ m := Nat.two_pow_pos m
  constructor
  · intro h i hi _
    have : x / 2 ^ m = 0 := by
      rcases Nat.mul_eq_zero.1 h with h | h
      · exact h
      · omega
    have e : (x / 2 ^ m).testBit (i - m) = x.testBit i := by rw [Nat.testBit_div_two_pow]; congr 1; omega
    rw [← e, this]; simp
  · intro h
    have : x / 2 ^ m = 0 := by
      apply Nat.eq_of_testBit_eq
      intro i
      rw [Nat.testBit_div_two_pow, Nat.zero_testBit]
      by_cases h2 : i + m < 64
      · exact h _ (by omega) h2
      · exact Nat.testBit_lt_two_pow (Nat.lt_of_lt_of_le (show x < 2 ^ 64 from hx) (Nat.pow_le_pow_right (by decide) (by omega)))
    rw [this]; simp

/-- The test of the last word. -/
theorem valid_last (n : Nat) (ws : List Nat) (j x : Nat) (hn : n ≤ 4096) (hl : ws.length = (n + 63) / 64) (hj : ws.length = j + 1) (hx : ws[j]? = some x) (hlt : x < 18446744073709551616) :
    Valid n ws ↔ x / 2 ^ min (n - 64 * j) 64 * 2 ^ min (n - 64 * j) 64 = 0 := by
  have hg : ws.getD j 0 = x := by simp [List.getD, hx]
  rw [high_zero x _ hlt]
  constructor
  · intro h i hi hi2
    have := h.top (64 * j + i) (by omega) (by omega)
    rwa [bit_word ws j i hi2, hg] at this
  · intro h
    refine ⟨hn, hl, fun i h1 h2 => ?_⟩
    have e : i = 64 * j + (i - 64 * j) := by omega
    rw [e, bit_word ws j _ (by omega), hg]
    exact h _ (by omega) (by omega)

theorem valid_nil : Valid 0 [] := ⟨by omega, rfl, fun i _ h => by simp at h⟩

/-- The mask of a word's bits below m. -/
theorem mask_int (m : Nat) (h : m ≤ 64) : IntKind.u64.wrap (IntKind.u64.wrap (2 ^ m) - 1) = ((2 ^ m - 1 : Nat) : Int) := by
  have e : ((2 : Int) ^ m) = ((2 ^ m : Nat) : Int) := by simp
  rw [e, IntKind.wrap_u64, IntKind.wrap_u64]
  have h1 : 1 ≤ 2 ^ m := Nat.one_le_two_pow
  have hp : 2 ^ m ≤ 9223372036854775808 ∨ 2 ^ m = 18446744073709551616 := by
    by_cases h : m = 64
    · right; rw [h]
    · left; exact Nat.pow_le_pow_right (n := 2) (j := 63) (by decide) (by omega)
  generalize 2 ^ m = p at *
  omega

theorem and_mask_int (x m : Nat) (hx : x < 18446744073709551616) (hm : m ≤ 64) : bits BinOp.and IntKind.u64 (x : Int) ((2 ^ m - 1 : Nat) : Int) = ((x % 2 ^ m : Nat) : Int) := by
  rw [bits_and_u64_nat x _ hx (mask_lt m hm), Nat.and_two_pow_sub_one_eq_mod]
end Go.Proofs.Ytpkclmfadlkbeaa.Words

namespace Go.Proofs.Ytpkclmfadlkbeaa
open Go.RowKit

theorem cell_lt {w : World} {a : Addr} {v : Value} (h : w.cell? a = some v) : a.block < w.heap.size := by
  rcases Nat.lt_or_ge a.block w.heap.size with h1 | h1
  · exact h1
  · unfold World.cell? at h
    rw [Array.getElem?_eq_none h1] at h
    simp at h

/-- The slice with the address A holds the values xs, one a cell, in a block below B. -/
def Lies (w : World) (B : Nat) (A : Option Addr) (xs : List Value) : Prop :=
  xs ≠ [] → ∃ b o, A = some ⟨b, o, none⟩ ∧ b < B ∧ ∀ j v, xs[j]? = some v → w.cell? ⟨b, o + j, none⟩ = some v

theorem Lies.nil {w : World} {B : Nat} {A : Option Addr} : Lies w B A [] := fun h => absurd rfl h

theorem Lies.keep {w w' : World} {B : Nat} {A : Option Addr} {xs : List Value} (h : Lies w B A xs) (hk : ∀ p : Addr, p.block < B → w'.cell? p = w.cell? p) : Lies w' B A xs := fun hne => by
  obtain ⟨b, o, e, hb, hc⟩ := h hne
  exact ⟨b, o, e, hb, fun j v hv => (hk _ hb).trans (hc j v hv)⟩

theorem Lies.wide {w : World} {B B' : Nat} {A : Option Addr} {xs : List Value} (h : Lies w B A xs) (hB : B ≤ B') : Lies w B' A xs := fun hne => by
  obtain ⟨b, o, e, hb, hc⟩ := h hne
  exact ⟨b, o, e, Nat.lt_of_lt_of_le hb hB, hc⟩

theorem Lies.below {w w' : World} {B : Nat} {A : Option Addr} {xs : List Value} (h : Lies w B A xs) (hb : Below B w w') : Lies w' B A xs := h.keep fun _ hp => hb.cell hp

/-- A slice that lay in the world when a call began lies there behind it. -/
theorem Lies.on {w w' : World} {A : Option Addr} {xs : List Value} (h : Lies w w.heap.size A xs) (hb : Below w.heap.size w w') : Lies w' w'.heap.size A xs := (h.below hb).wide hb.size

theorem Lies.drewN {w : World} {B : Nat} {A : Option Addr} {xs : List Value} (h : Lies w B A xs) (n : Nat) : Lies (w.drewN n) B A xs := h

theorem Lies.alloc {w : World} {A : Option Addr} {xs : List Value} (h : Lies w w.heap.size A xs) (o : Obj) : Lies (w.alloc o) (w.alloc o).heap.size A xs :=
  (h.keep fun p hp => World.cell?_alloc_lt w o p hp).wide (by simp)

/-- An element, by its number. -/
theorem Lies.at_ {α : Type} {f : α → Value} {w : World} {B : Nat} {A : Option Addr} {l : List α} (h : Lies w B A (l.map f)) {k : Nat} (hk : k < l.length) :
    ∃ b o x, A = some ⟨b, o, none⟩ ∧ b < B ∧ l[k]? = some x ∧ w.cell? ⟨b, o + k, none⟩ = some (f x) := by
  obtain ⟨b, o, e, hb, hc⟩ := h (by intro e; rw [List.map_eq_nil_iff] at e; subst e; simp at hk)
  have hx : l[k]? = some l[k] := List.getElem?_eq_getElem hk
  exact ⟨b, o, l[k], e, hb, hx, hc k _ (by rw [List.getElem?_map, hx]; rfl)⟩

/-- A part from the front. -/
theorem Lies.take {w : World} {B : Nat} {A : Option Addr} {xs : List Value} (h : Lies w B A xs) (n : Nat) : Lies w B A (xs.take n) := fun hne => by
  obtain ⟨b, o, e, hb, hc⟩ := h (by intro e; subst e; simp at hne)
  refine ⟨b, o, e, hb, fun j v hv => hc j v ?_⟩
  rw [List.getElem?_take] at hv
  split at hv
  · exact hv
  · cases hv

theorem bdN {B : Nat} {a w : World} (h : Below B a w) (n : Nat) : Below B a (w.drewN n) := ⟨h.os, h.tape, h.output, h.size, h.block⟩

/-- A call that leaves the world alone, in a region that draws: the first of a walk, and a later one. -/
theorem quiet1 {P : Program} {f : FuncId} {args : Array Value} {w : World} {n : Nat} {v : Value} (h : Hid (∀ W : World, Calls P f args W fun e w' => e = .returned v ∧ W = w')) :
    Calls P f args (w.drewN n) fun e w'' => e = .returned v ∧ ∃ m, w'' = w.drewN m := (h.out _).mono fun _ _ ⟨he, hm⟩ => ⟨he, n, hm.symm⟩
theorem quiet2 {P : Program} {f : FuncId} {args : Array Value} {w : World} {a n : Nat} {v : Value} (h : Hid (∀ W : World, Calls P f args W fun e w' => e = .returned v ∧ W = w')) :
    Calls P f args (w.drewN (a + n)) fun e w'' => e = .returned v ∧ ∃ m, w'' = w.drewN (a + m) := (h.out _).mono fun _ _ ⟨he, hm⟩ => ⟨he, n, hm.symm⟩

/-- A call that only draws, in a region that draws: the first of a walk, and a later one. -/
theorem quietD1 {P : Program} {f : FuncId} {args : Array Value} {w : World} {n : Nat} {v : Value} (h : Hid (∀ d, Calls P f args (w.drewN d) fun e w' => e = .returned v ∧ ∃ m, w' = (w.drewN d).drewN m)) :
    Calls P f args (w.drewN n) fun e w'' => e = .returned v ∧ ∃ m, w'' = w.drewN m := (h.out n).mono fun _ _ ⟨he, m, hm⟩ => ⟨he, n + m, by rw [hm, World.drewN_drewN]⟩
theorem quietD2 {P : Program} {f : FuncId} {args : Array Value} {w : World} {a n : Nat} {v : Value} (h : Hid (∀ d, Calls P f args (w.drewN d) fun e w' => e = .returned v ∧ ∃ m, w' = (w.drewN d).drewN m)) :
    Calls P f args (w.drewN (a + n)) fun e w'' => e = .returned v ∧ ∃ m, w'' = w.drewN (a + m) := (h.out (a + n)).mono fun _ _ ⟨he, m, hm⟩ => ⟨he, n + m, by rw [hm, World.drewN_drewN, Nat.add_assoc]⟩

/-- Behind a call that made memory alone, all that was there reads as it did. -/
theorem bcell {B : Nat} {W w1 : World} (hb : Below B W w1) : ∀ b o, b < B → w1.cell? ⟨b, o, none⟩ = W.cell? ⟨b, o, none⟩ := fun b o h => hb.cell (p := ⟨b, o, none⟩) h

/-- 'append(out, u)', one cell an element, out nil or the call's own. -/
theorem append_one {P : Program} (w : World) {ops : Array Oper} {rest : List Oper} {o : Oper} {a : Act} {Q : Exit → Act → World → Prop} (hgd : o.guard = none) (s x : Operand) (t : TypeId)
    (ho : o.op = .call { callee := .builtin .append, args := #[s, x], argTypes := #[t, t] }) (base : Nat) (e : TypeId) (z : Value) (bytes : Nat) (ht : P.underlying t = some (.slice e))
    (hinfo : (P.info? e).map (fun i => (i.zero, i.size, i.bytes)) = some (some z, 1, bytes)) (hz : z.cells.size = 1) (v : Value) (n : Nat) (xs : List Value) (hs : a.eval s = v) (hown : w.ownsRow base e 1 v n xs)
    (g c : Nat) (u : Value) (hx : a.eval x = .slice (some ⟨g, 0, none⟩) 1 c) (hu : w.cell? ⟨g, 0, none⟩ = some u) (h1 : u.oneCell' = true) (h63 : n + 1 ≤ maxLen) (hbytes : (n + 1) * bytes ≤ 140737488355328) (hbase : base ≤ w.heap.size)
    (h : ∀ v' w', w'.ownsRow base e 1 v' (n + 1) (xs ++ [u]) → w.grownBy w' v.ownBlock → wpList P ops Q rest (a.put o.dst v') w') : wpList P ops Q (o :: rest) a w := by
  obtain ⟨i, hi, hz0, hz1, hz2⟩ := info_parts hinfo
  refine wpList_append_own w hgd s x t ho base e i z 1 bytes ht hi hz0 hz1 hz2 hz (by decide) v n xs hs hown ⟨g, 0, none⟩ 1 c [u] hx rfl ?_ ?_ h63 hbytes hbase fun v' w' h2 h3 _ => h v' w' h2 h3
  · intro j u' hj
    match j, hj with
    | 0, hj =>
      obtain rfl : u = u' := by simpa using hj
      exact hu
  · intro u' hu'
    obtain rfl : u' = u := by simpa using hu'
    exact h1

/-- 'append(out, xs...)', one cell an element, out nil or the call's own, xs nil or in memory. -/
theorem append_from {P : Program} (w : World) {ops : Array Oper} {rest : List Oper} {o : Oper} {a : Act} {Q : Exit → Act → World → Prop} (hgd : o.guard = none) (s x : Operand) (t : TypeId)
    (ho : o.op = .call { callee := .builtin .append, args := #[s, x], argTypes := #[t, t] }) (base : Nat) (e : TypeId) (z : Value) (bytes : Nat) (ht : P.underlying t = some (.slice e))
    (hinfo : (P.info? e).map (fun i => (i.zero, i.size, i.bytes)) = some (some z, 1, bytes)) (hz : z.cells.size = 1) (v : Value) (n : Nat) (xs : List Value) (hs : a.eval s = v) (hown : w.ownsRow base e 1 v n xs)
    (A : Option Addr) (m c : Nat) (news : List Value) (hx : a.eval x = .slice A m c) (hm : news.length = m) (hnone : A = none → c = 0) (hl : Lies w w.heap.size A news) (h1 : ∀ u ∈ news, u.oneCell' = true) (h63 : n + m ≤ maxLen) (hbytes : (n + m) * bytes ≤ 140737488355328) (hbase : base ≤ w.heap.size)
    (h : ∀ v' w', w'.ownsRow base e 1 v' (n + m) (xs ++ news) → w.grownBy w' v.ownBlock → wpList P ops Q rest (a.put o.dst v') w') : wpList P ops Q (o :: rest) a w := by
  obtain ⟨i, hi, hz0, hz1, hz2⟩ := info_parts hinfo
  cases A with
  | none =>
    have hc := hnone rfl
    have hn : news = [] := by
      by_cases hne : news = []
      · exact hne
      · obtain ⟨b, o', e', _⟩ := hl hne
        cases e'
    subst hn
    have hm0 : m = 0 := hm.symm
    subst hm0 hc
    exact wpList_append_own_none hgd s x t ho base e i 1 ht hi v n xs hs hown hx (h v w (by simpa using hown) ⟨rfl, rfl, rfl, Nat.le_refl _, fun _ _ _ => rfl⟩)
  | some ad =>
    refine wpList_append_own w hgd s x t ho base e i z 1 bytes ht hi hz0 hz1 hz2 hz (by decide) v n xs hs hown ad m c news hx (by omega) ?_ h1 h63 hbytes hbase fun v' w' h2 h3 _ => h v' w' h2 h3
    intro j u hj
    obtain ⟨b, o', e', _, hc⟩ := hl (by intro e'; subst e'; simp at hj)
    obtain rfl := Option.some.inj e'
    rw [Addr.add_lit]
    exact hc j u hj

theorem bools_one (l : List Bool) : ∀ u ∈ l.map Value.bool, u.oneCell' = true := by
  intro u hu
  obtain ⟨_, _, rfl⟩ := List.mem_map.1 hu
  rfl

/-- The address, if there is one, leads to a block from B on. -/
def New (B : Nat) (A : Option Addr) : Prop := ∀ ad, A = some ad → B ≤ ad.block

theorem New.mono {B B' : Nat} {A : Option Addr} (h : New B A) (hB : B' ≤ B) : New B' A := fun ad e => Nat.le_trans hB (h ad e)

/-- A store into another block. -/
theorem Lies.setCell {w : World} {B : Nat} {A : Option Addr} {xs : List Value} (h : Lies w B A xs) {p : Addr} {B' : Nat} (hn : New B' A) (hp : p.block < B') (u : Value) : Lies (w.setCell p u) B A xs := fun hne => by
  obtain ⟨b, o, e, hb, hc⟩ := h hne
  have hb' := hn _ e
  refine ⟨b, o, e, hb, fun j v hv => ?_⟩
  rw [World.cell?_setCell_other w p ⟨b, o + j, none⟩ u (fun e' => by subst e'; simp at hp hb'; omega)]
  exact hc j v hv

/-- What the call owns, as a slice that lies in memory. -/
theorem own_slice {w : World} {base : Nat} {e : TypeId} {v : Value} {n : Nat} {xs : List Value} (h : w.ownsRow base e 1 v n xs) : ∃ A c, v = .slice A n c ∧ n ≤ c ∧ xs.length = n ∧ Lies w w.heap.size A xs ∧ (A = none → c = 0) ∧ New base A := by
  have hlen : xs.length = n := by have := h.1; omega
  rcases h.2 with ⟨rfl, rfl⟩ | ⟨g, cap, cur, rfl, hg, hh, hn, _, hs, hx⟩
  · exact ⟨none, 0, rfl, Nat.le_refl _, hlen, by rw [List.eq_nil_of_length_eq_zero hlen]; exact Lies.nil, fun _ => rfl, (fun _ e => by cases e)⟩
  · refine ⟨_, cap, rfl, hn, hlen, fun _ => ⟨g, 0, rfl, ?_, fun j v hv => ?_⟩, (fun e => by cases e), fun ad e => by obtain rfl := Option.some.inj e; exact hg⟩
    · rcases Nat.lt_or_ge g w.heap.size with h1 | h1
      · exact h1
      · rw [Array.getElem?_eq_none h1] at hh; cases hh
    · have := h.cells (g := g) rfl j v hv
      rwa [Addr.add_lit, Nat.zero_add, ← Nat.zero_add j] at this

/-- What a call that returns a new slice of one-cell values leaves. -/
def GivesSlice (w : World) (xs : List Value) (e : Ending) (w' : World) : Prop := ∃ A c, e = .returned (.slice A xs.length c) ∧ xs.length ≤ c ∧ Lies w' w'.heap.size A xs ∧ (A = none → c = 0) ∧ New w.heap.size A ∧ Below w.heap.size w w'

/-- New memory, one step behind the other. -/
theorem bnew (w : World) (o : Obj) : Below w.heap.size w (w.alloc o) := (Below.refl _ _).alloc (Nat.le_refl _) _
theorem chain {w a b : World} (h : Below w.heap.size w a) (k : Below a.heap.size a b) : Below w.heap.size w b := h.trans (k.mono h.size)

/-- A block known whole. -/
def Blk (w : World) (g : Nat) (t : TypeId) (xs : List Value) : Prop := w.heap[g]? = some (.cells xs.toArray t (0, 0))

theorem Blk.lt {w : World} {g : Nat} {t : TypeId} {xs : List Value} (h : Blk w g t xs) : g < w.heap.size := by
  rcases Nat.lt_or_ge g w.heap.size with h1 | h1
  · exact h1
  · unfold Blk at h; rw [Array.getElem?_eq_none h1] at h; cases h
theorem Blk.cell {w : World} {g : Nat} {t : TypeId} {xs : List Value} (h : Blk w g t xs) (i : Nat) : w.cell? ⟨g, i, none⟩ = xs[i]? := by
  unfold Blk at h
  simp [World.cell?, h]
theorem Blk.frozen {w : World} {g : Nat} {t : TypeId} {xs : List Value} (h : Blk w g t xs) (i : Nat) : w.frozen? ⟨g, i, none⟩ = false := by
  unfold Blk at h
  simp [World.frozen?, h]
theorem Blk.new (w : World) (t : TypeId) (xs : List Value) : Blk (w.alloc (.cells xs.toArray t)) w.heap.size t xs := by
  show (w.heap.push _)[w.heap.size]? = _
  simp
theorem Blk.drew {w : World} {g : Nat} {t : TypeId} {xs : List Value} (h : Blk w g t xs) : Blk w.drew g t xs := h
theorem Blk.drewN {w : World} {g : Nat} {t : TypeId} {xs : List Value} (h : Blk w g t xs) (n : Nat) : Blk (w.drewN n) g t xs := h
theorem Blk.alloc {w : World} {g : Nat} {t : TypeId} {xs : List Value} (h : Blk w g t xs) (o : Obj) : Blk (w.alloc o) g t xs := (Below.heap_alloc w o g h.lt).trans h
theorem Blk.put {w : World} {g : Nat} {t : TypeId} {xs : List Value} (h : Blk w g t xs) (i : Nat) (u : Value) : Blk (w.setCell ⟨g, i, none⟩ u) g t (xs.set i u) := by
  unfold Blk at h ⊢
  simp [World.setCell, Array.getElem?_modify, h]
theorem Blk.far {w : World} {g : Nat} {t : TypeId} {xs : List Value} (h : Blk w g t xs) {p : Addr} (hp : g ≠ p.block) (u : Value) : Blk (w.setCell p u) g t xs := (Below.heap_setCell w p u g hp).trans h
theorem Blk.below {w w' : World} {B g : Nat} {t : TypeId} {xs : List Value} (h : Blk w g t xs) (hb : Below B w w') (hg : g < B) : Blk w' g t xs := (hb.block g hg).trans h
/-- A slice over the whole of a block. -/
theorem Blk.lies {w : World} {g : Nat} {t : TypeId} {xs : List Value} (h : Blk w g t xs) : Lies w w.heap.size (some ⟨g, 0, none⟩) xs :=
  fun _ => ⟨g, 0, rfl, h.lt, fun j v hv => by rw [Nat.zero_add, h.cell]; exact hv⟩

/-- The cells that 'make' lays, under one name. -/
def zeros (z : Value) (n : Nat) : Array Value := (List.replicate n z).toArray

theorem madeCells_one (z : Value) (hz : z.cells = #[z]) (n : Nat) : madeCells z.cells n = zeros z n := by
  unfold zeros madeCells
  rw [hz]
  apply Array.ext
  · simp
  · intro i h1 h2
    simp [Nat.mod_one]

/-- 'make([]T, n)', one cell an element. -/
theorem make_row {P : Program} (t e : TypeId) (z : Value) (bytes : Nat) (ht : P.underlying t = some (.slice e)) (hinfo : (P.info? e).map (fun i => (i.zero, i.size, i.bytes)) = some (some z, 1, bytes)) (hz : z.cells = #[z])
    (n : Nat) (hb : bytes * n ≤ 281474976710656) (h63 : n ≤ 9223372036854775807) (w : World) :
    (Instr.makeSlice t (.int .i64 (n : Int)) (.int .i64 (n : Int))).run P w = .ok (.slice (some ⟨w.heap.size, 0, none⟩) n n) (w.alloc (.cells (zeros z n) e)) := by
  obtain ⟨i, hi, hz0, hz1, hz2⟩ := info_parts hinfo
  have hb' : (i.bytes : Int) * (n : Int) ≤ 281474976710656 := by
    have h : ((bytes * n : Nat) : Int) ≤ 281474976710656 := by omega
    rw [Int.natCast_mul] at h
    rw [hz2]; exact h
  have hr := run_make (P := P) w t e i z ht hi hz0 .i64 .i64 n n (by omega) (Int.le_refl _) hb' (by omega)
  rw [hr, hz1, Int.toNat_natCast, Nat.mul_one, madeCells_one z hz]

theorem zeros_blk (w : World) (z : Value) (n : Nat) (e : TypeId) : Blk (w.alloc (.cells (zeros z n) e)) w.heap.size e (List.replicate n z) := Blk.new w e (List.replicate n z)

theorem bfrozen {B : Nat} {W w1 : World} (hb : Below B W w1) : ∀ b o, b < B → w1.frozen? ⟨b, o, none⟩ = W.frozen? ⟨b, o, none⟩ := fun b o h => hb.frozen (p := ⟨b, o, none⟩) h

/-- A slice of words: numbers below 2^64. -/
def Words64 (w : World) (B : Nat) (A : Option Addr) (ws : List Nat) : Prop := Lies w B A (ws.map fun x : Nat => .int .u64 (x : Int)) ∧ ∀ x ∈ ws, x < 18446744073709551616

theorem Words64.at_ {w : World} {B : Nat} {A : Option Addr} {ws : List Nat} (h : Words64 w B A ws) {k : Nat} (hk : k < ws.length) :
    ∃ b o x, A = some ⟨b, o, none⟩ ∧ b < B ∧ ws[k]? = some x ∧ x < 18446744073709551616 ∧ w.cell? ⟨b, o + k, none⟩ = some (.int .u64 (x : Int)) := by
  obtain ⟨b, o, x, e, hb, hx, hc⟩ := h.1.at_ hk
  exact ⟨b, o, x, e, hb, hx, h.2 x (List.mem_of_getElem? hx), hc⟩
theorem Words64.on {w w' : World} {A : Option Addr} {ws : List Nat} (h : Words64 w w.heap.size A ws) (hb : Below w.heap.size w w') : Words64 w' w'.heap.size A ws := ⟨h.1.on hb, h.2⟩
theorem Words64.alloc {w : World} {A : Option Addr} {ws : List Nat} (h : Words64 w w.heap.size A ws) (o : Obj) : Words64 (w.alloc o) (w.alloc o).heap.size A ws := ⟨h.1.alloc o, h.2⟩
theorem Words64.drewN {w : World} {B : Nat} {A : Option Addr} {ws : List Nat} (h : Words64 w B A ws) (n : Nat) : Words64 (w.drewN n) B A ws := h
theorem Words64.below {w w' : World} {B : Nat} {A : Option Addr} {ws : List Nat} (h : Words64 w B A ws) (hb : Below B w w') : Words64 w' B A ws := ⟨h.1.below hb, h.2⟩
theorem Lies.drew {w : World} {B : Nat} {A : Option Addr} {xs : List Value} (h : Lies w B A xs) : Lies w.drew B A xs := h
theorem Words64.drew {w : World} {B : Nat} {A : Option Addr} {ws : List Nat} (h : Words64 w B A ws) : Words64 w.drew B A ws := h
theorem Words64.setCell {w : World} {B : Nat} {A : Option Addr} {ws : List Nat} (h : Words64 w B A ws) {p : Addr} {B' : Nat} (hn : New B' A) (hp : p.block < B') (u : Value) : Words64 (w.setCell p u) B A ws := ⟨h.1.setCell hn hp u, h.2⟩
end Go.Proofs.Ytpkclmfadlkbeaa

namespace Go.Proofs.Ytpkclmfadlkbeaa.Words
open Go Go.RowKit

/-- The number whose bits below k are p's. -/
def packTo (p : Nat → Bool) : Nat → Nat
  | 0 => 0
  | k + 1 => packTo p k + (p k).toNat * 2 ^ k

theorem packTo_lt (p : Nat → Bool) (k : Nat) : packTo p k < 2 ^ k := by
  induction k with
  | zero => simp [packTo]
  | succ k ih => rw [packTo, Nat.pow_succ]; cases p k <;> simp <;> omega

theorem packTo_bit (p : Nat → Bool) (k i : Nat) : (packTo p k).testBit i = (decide (i < k) && p i) := by
  induction k with
  | zero => simp [packTo]
  | succ k ih =>
    have hl := packTo_lt p k
    have e : packTo p (k + 1) = 2 ^ k * (p k).toNat + packTo p k := by rw [packTo, Nat.mul_comm]; omega
    rw [e, Nat.testBit_two_pow_mul_add _ hl]
    by_cases h : i < k
    · rw [if_pos h, ih]; simp [h, show i < k + 1 by omega]
    · rw [if_neg h]
      by_cases h2 : i = k
      · subst h2; cases hp : p i <;> simp
      · rw [show decide (i < k + 1) = false by simp; omega]
        cases p k
        · simp
        · rw [Nat.testBit_lt_two_pow (show (true : Bool).toNat < 2 ^ (i - k) from Nat.lt_of_lt_of_le (show 1 < 2 ^ 1 by decide) (Nat.pow_le_pow_right (by decide) (by omega)))]; rfl

theorem pack_word (p : Nat → Bool) (k : Nat) (h : k ≤ 64) : packTo p k < 18446744073709551616 :=
  Nat.lt_of_lt_of_le (packTo_lt p k) (Nat.pow_le_pow_right (n := 2) (j := 64) (by decide) h)

/-- The words, m of them, after i bools are laid. -/
def laid (l : List Bool) (i m : Nat) : List Nat := (List.range m).map fun j => packTo (fun b => l.getD (64 * j + b) false) (min 64 (i - 64 * j))

/-- The words of a list of bools. -/
def rowOf (l : List Bool) : List Nat := laid l l.length ((l.length + 63) / 64)

theorem laid_length (l : List Bool) (i m : Nat) : (laid l i m).length = m := by simp [laid]
theorem laid_get (l : List Bool) (i m j : Nat) (h : j < m) : (laid l i m)[j]? = some (packTo (fun b => l.getD (64 * j + b) false) (min 64 (i - 64 * j))) := by
  unfold laid
  rw [List.getElem?_map, List.getElem?_range h]; rfl
theorem laid_word (l : List Bool) (i m : Nat) : ∀ x ∈ laid l i m, x < 18446744073709551616 := by
  intro x hx
  obtain ⟨j, _, rfl⟩ := List.mem_map.1 hx
  exact pack_word _ _ (by omega)
theorem laid_zero (l : List Bool) (m : Nat) : laid l 0 m = List.replicate m 0 := by
  unfold laid
  apply List.ext_getElem?
  intro j
  by_cases h : j < m
  · rw [List.getElem?_map, List.getElem?_range h, List.getElem?_replicate, if_pos h]; simp [packTo]
  · rw [List.getElem?_eq_none (by simpa using h), List.getElem?_eq_none (by simpa using h)]

/-- One bool more. -/
theorem laid_step (l : List Bool) (i m : Nat) (h : i / 64 < m) :
    laid l (i + 1) m = (laid l i m).set (i / 64) (packTo (fun b => l.getD (64 * (i / 64) + b) false) (i % 64) + (l.getD i false).toNat * 2 ^ (i % 64)) := by
  apply List.ext_getElem?
  intro j
  by_cases hj : j < m
  · rw [laid_get _ _ _ _ hj]
    by_cases e : i / 64 = j
    · subst e
      rw [List.getElem?_set_self (by rw [laid_length]; exact h)]
      rw [show min 64 (i + 1 - 64 * (i / 64)) = i % 64 + 1 by omega, packTo, show 64 * (i / 64) + i % 64 = i by omega]
    · rw [List.getElem?_set_ne e, laid_get _ _ _ _ hj, show min 64 (i + 1 - 64 * j) = min 64 (i - 64 * j) by omega]
  · rw [List.getElem?_eq_none (by rw [laid_length]; omega), List.getElem?_eq_none (by rw [List.length_set, laid_length]; omega)]

theorem laid_at (l : List Bool) (i m : Nat) (h : i / 64 < m) : (laid l i m)[i / 64]? = some (packTo (fun b => l.getD (64 * (i / 64) + b) false) (i % 64)) := by
  rw [laid_get _ _ _ _ h, show min 64 (i - 64 * (i / 64)) = i % 64 by omega]

/-- A false bool lays nothing. -/
theorem laid_skip (l : List Bool) (i m : Nat) (h : i / 64 < m) (hb : l.getD i false = false) : laid l (i + 1) m = laid l i m := by
  rw [laid_step l i m h, hb]
  apply List.ext_getElem?
  intro j
  by_cases e : i / 64 = j
  · subst e
    rw [List.getElem?_set_self (by rw [laid_length]; exact h), laid_at l i m h]; simp
  · rw [List.getElem?_set_ne e]

/-- One word more, still empty. -/
theorem laid_more (l : List Bool) (i m : Nat) (h : i ≤ 64 * m) : laid l i (m + 1) = laid l i m ++ [0] := by
  unfold laid
  rw [List.range_succ, List.map_append, List.map_cons, List.map_nil, show min 64 (i - 64 * m) = 0 by omega]; rfl

theorem rowOf_length (l : List Bool) : (rowOf l).length = (l.length + 63) / 64 := laid_length _ _ _
theorem rowOf_word (l : List Bool) : ∀ x ∈ rowOf l, x < 18446744073709551616 := laid_word _ _ _

theorem rowOf_bit (l : List Bool) (i : Nat) (h : i < 64 * ((l.length + 63) / 64)) : bit (rowOf l) i = l.getD i false := by
  have hd : (rowOf l).getD (i / 64) 0 = packTo (fun b => l.getD (64 * (i / 64) + b) false) (min 64 (l.length - 64 * (i / 64))) := by
    unfold rowOf
    rw [List.getD, laid_get _ _ _ _ (by omega)]; rfl
  unfold bit
  rw [hd, packTo_bit, show 64 * (i / 64) + i % 64 = i by omega]
  by_cases hl : i < l.length
  · rw [show decide (i % 64 < min 64 (l.length - 64 * (i / 64))) = true by simp; omega]; rfl
  · rw [List.getD, List.getElem?_eq_none (by omega)]; simp

theorem rowOf_valid (l : List Bool) (h : l.length ≤ 4096) : Valid l.length (rowOf l) :=
  ⟨h, rowOf_length l, fun i h1 h2 => by
    rw [rowOf_length] at h2
    rw [rowOf_bit l i h2, List.getD, List.getElem?_eq_none h1]; rfl⟩

/-- How many of the first k bools are true, of a list and of its vector. -/
theorem tally_row (l : List Bool) (k : Nat) (h : k ≤ l.length) : tally (bit (rowOf l)) k = tally (fun i => l.getD i false) k :=
  tally_congr fun i hi => rowOf_bit l i (by omega)

theorem tally_join (a b : List Bool) (k : Nat) (h : k ≤ a.length + b.length) : tally (bit (rowOf a)) (min k a.length) + tally (bit (rowOf b)) (k - a.length) = tally (bit (rowOf (a ++ b))) k := by
  rw [tally_row a _ (by omega), tally_row b _ (by omega), tally_row (a ++ b) k (by simpa using h)]
  have hl : ∀ i, i < a.length → (a ++ b).getD i false = a.getD i false := fun i hi => by simp [List.getD, List.getElem?_append_left hi]
  by_cases hk : k ≤ a.length
  · rw [show min k a.length = k by omega, show k - a.length = 0 by omega]
    exact tally_congr fun i hi => (hl i (by omega)).symm
  · obtain ⟨d, rfl⟩ := Nat.exists_eq_add_of_le (show a.length ≤ k by omega)
    rw [show min (a.length + d) a.length = a.length by omega, show a.length + d - a.length = d by omega, tally_add]
    congr 1
    · exact tally_congr fun i hi => (hl i hi).symm
    · exact tally_congr fun i hi => by simp [List.getD, List.getElem?_append_right (show a.length ≤ a.length + i by omega)]

theorem or_bit_int (x k : Nat) (hk : k < 64) (hx : x < 2 ^ k) : bits BinOp.or IntKind.u64 (x : Int) (IntKind.u64.wrap (2 ^ k)) = ((x + 2 ^ k : Nat) : Int) := by
  have hp : 2 ^ k ≤ 9223372036854775808 := Nat.pow_le_pow_right (n := 2) (j := 63) (by decide) (by omega)
  have e : ((2 : Int) ^ k) = ((2 ^ k : Nat) : Int) := by simp
  have e2 : IntKind.u64.wrap ((2 ^ k : Nat) : Int) = ((2 ^ k : Nat) : Int) := by
    rw [IntKind.wrap_u64]
    generalize 2 ^ k = p at *
    omega
  rw [e, e2, bits_or_u64_nat x _ (by omega) (by omega)]
  congr 1
  have := Nat.two_pow_add_eq_or_of_lt hx 1
  rw [Nat.mul_one] at this
  rw [Nat.or_comm, ← this]; omega

theorem add_bit_int (x k : Nat) (hk : k < 64) (hx : x < 2 ^ k) : IntKind.u64.wrap ((x : Int) + IntKind.u64.wrap (2 ^ k)) = ((x + 2 ^ k : Nat) : Int) := by
  have hp : 2 ^ k ≤ 9223372036854775808 := Nat.pow_le_pow_right (n := 2) (j := 63) (by decide) (by omega)
  have e : ((2 : Int) ^ k) = ((2 ^ k : Nat) : Int) := by simp
  rw [e, IntKind.wrap_u64, IntKind.wrap_u64]
  generalize 2 ^ k = p at *
  omega
end Go.Proofs.Ytpkclmfadlkbeaa.Words

namespace Go.Proofs.Ytpkclmfadlkbeaa
open Go.RowKit

/-- A row of a call's own, where its block stays. -/
theorem own_keep {w w' : World} {base : Nat} {e : TypeId} {v : Value} {n : Nat} {xs : List Value} (h : w.ownsRow base e 1 v n xs) (hk : ∀ q, v.ownBlock = some q → w'.heap[q]? = w.heap[q]?) : w'.ownsRow base e 1 v n xs := by
  refine ⟨h.1, ?_⟩
  rcases h.2 with ⟨rfl, hn⟩ | ⟨g, cap, cur, rfl, hb, hh, hr⟩
  · exact .inl ⟨rfl, hn⟩
  · exact .inr ⟨g, cap, cur, rfl, hb, (hk g rfl).trans hh, hr⟩
/-- Its block, and what kind of block it is. -/
theorem own_kind {w : World} {base : Nat} {e : TypeId} {v : Value} {n : Nat} {xs : List Value} (h : w.ownsRow base e 1 v n xs) {q : Nat} (hq : v.ownBlock = some q) : ∃ cur, w.heap[q]? = some (.cells cur e (0, 0)) := by
  rcases h.2 with ⟨rfl, hn⟩ | ⟨g, cap, cur, rfl, hb, hh, hr⟩
  · cases hq
  · obtain rfl := Option.some.inj hq
    exact ⟨cur, hh⟩
theorem own_lt {w : World} {base : Nat} {e : TypeId} {v : Value} {n : Nat} {xs : List Value} (h : w.ownsRow base e 1 v n xs) {q : Nat} (hq : v.ownBlock = some q) : q < w.heap.size := by
  obtain ⟨cur, hh⟩ := own_kind h hq
  rcases Nat.lt_or_ge q w.heap.size with h1 | h1
  · exact h1
  · rw [Array.getElem?_eq_none h1] at hh; cases hh
theorem own_below {w w' : World} {base B : Nat} {e : TypeId} {v : Value} {n : Nat} {xs : List Value} (h : w.ownsRow base e 1 v n xs) (hb : Below B w w') (hB : w.heap.size ≤ B) : w'.ownsRow base e 1 v n xs :=
  own_keep h fun q hq => hb.block q (Nat.lt_of_lt_of_le (own_lt h hq) hB)
theorem own_base {w : World} {base B : Nat} {e : TypeId} {v : Value} {n : Nat} {xs : List Value} (h : w.ownsRow base e 1 v n xs) (hB : B ≤ base) : w.ownsRow B e 1 v n xs := by
  refine ⟨h.1, ?_⟩
  rcases h.2 with ⟨rfl, hn⟩ | ⟨g, cap, cur, rfl, hb, hr⟩
  · exact .inl ⟨rfl, hn⟩
  · exact .inr ⟨g, cap, cur, rfl, by omega, hr⟩
/-- Beside a row of another kind that grows. -/
theorem own_beside {w w' : World} {base B : Nat} {e e2 : TypeId} {v u : Value} {n m : Nat} {xs ys : List Value} (h : w.ownsRow base e 1 v n xs) (k : w.ownsRow B e2 1 u m ys) (hne : e ≠ e2) (hg : w.grownBy w' u.ownBlock) : w'.ownsRow base e 1 v n xs :=
  own_keep h fun q hq => hg.block q (own_lt h hq) fun e' => by
    obtain ⟨c1, h1⟩ := own_kind h hq
    obtain ⟨c2, h2⟩ := own_kind k e'.symm
    rw [h1] at h2
    injection h2 with h2
    injection h2 with _ h3
    exact hne h3
/-- A block that 'make' laid and that was filled. -/
theorem Blk.owns {w : World} {g : Nat} {e : TypeId} {xs : List Value} (h : Blk w g e xs) {base : Nat} (hb : base ≤ g) (hn : xs.length ≤ maxLen) : w.ownsRow base e 1 (.slice (some ⟨g, 0, none⟩) xs.length xs.length) xs.length xs :=
  ⟨by simp, .inr ⟨g, xs.length, xs.toArray, rfl, hb, h, Nat.le_refl _, hn, by simp, by simp⟩⟩

/-- A row of z's, of which the first i are already xs's. -/
def fillR {α : Type} (xs : List α) (z : α) (i : Nat) : List α := xs.take i ++ List.replicate (xs.length - i) z
theorem fillR_zero {α : Type} (xs : List α) (z : α) : fillR xs z 0 = List.replicate xs.length z := by simp [fillR]
theorem fillR_all {α : Type} (xs : List α) (z : α) : fillR xs z xs.length = xs := by simp [fillR]
theorem fillR_step {α : Type} (xs : List α) (z : α) (i : Nat) (x : α) (h : xs[i]? = some x) : (fillR xs z i).set i x = fillR xs z (i + 1) := by
  have hi : i < xs.length := by
    rcases Nat.lt_or_ge i xs.length with h1 | h1
    · exact h1
    · rw [List.getElem?_eq_none h1] at h; cases h
  unfold fillR
  rw [show xs.length - i = xs.length - (i + 1) + 1 by omega, List.replicate_succ, List.take_add_one, h, List.set_append]
  simp [List.length_take, Nat.min_eq_left (Nat.le_of_lt hi)]
theorem fillR_at {α : Type} (xs : List α) (z : α) (i : Nat) (h : i < xs.length) : (fillR xs z i)[i]? = some z := by
  unfold fillR
  rw [List.getElem?_append_right (by simp; omega), List.getElem?_replicate]
  simp [Nat.min_eq_left (Nat.le_of_lt h)]
  omega

/-- A row of the call's own that is not empty has a block. -/
theorem own_at {w : World} {base : Nat} {e : TypeId} {A : Option Addr} {n m c : Nat} {xs : List Value} (h : w.ownsRow base e 1 (.slice A m c) n xs) (hn : 0 < n) : ∃ g, A = some ⟨g, 0, none⟩ ∧ base ≤ g := by
  rcases h.2 with ⟨_, h0⟩ | ⟨g, cap, cur, hv, hb, _⟩
  · omega
  · injection hv with h1
    exact ⟨g, h1, hb⟩
/-- A store into it. -/
theorem own_put {w : World} {base : Nat} {e : TypeId} {g n c : Nat} {xs : List Value} (h : w.ownsRow base e 1 (.slice (some ⟨g, 0, none⟩) n c) n xs) (i : Nat) (u : Value) : (w.setCell ⟨g, i, none⟩ u).ownsRow base e 1 (.slice (some ⟨g, 0, none⟩) n c) n (xs.set i u) := by
  refine ⟨by rw [List.length_set]; exact h.1, ?_⟩
  rcases h.2 with ⟨hv, _⟩ | ⟨g', cap, cur, hv, hb, hh, hn, hm, hs, hx⟩
  · cases hv
  · injection hv with h1 _ h2
    obtain rfl : g = g' := by injection h1 with h1; injection h1
    subst h2
    have hB : Blk w g e cur.toList := by unfold Blk; rw [Array.toArray_toList]; exact hh
    refine .inr ⟨g, c, (cur.toList.set i u).toArray, rfl, hb, hB.put i u, hn, hm, by simpa using hs, ?_⟩
    rw [← hx]
    simp [List.take_set]
theorem own_cell {w : World} {base : Nat} {e : TypeId} {g n c : Nat} {xs : List Value} (h : w.ownsRow base e 1 (.slice (some ⟨g, 0, none⟩) n c) n xs) {i : Nat} {v : Value} (hv : xs[i]? = some v) : w.cell? ⟨g, i, none⟩ = some v := by
  have := h.cells (g := g) rfl i v hv
  rwa [Addr.add_lit, Nat.zero_add] at this
theorem own_frozen {w : World} {base : Nat} {e : TypeId} {g n c : Nat} {xs : List Value} (h : w.ownsRow base e 1 (.slice (some ⟨g, 0, none⟩) n c) n xs) (i : Nat) : w.frozen? ⟨g, i, none⟩ = false := by
  rcases h.2 with ⟨hv, _⟩ | ⟨g', cap, cur, hv, _, hh, _⟩
  · cases hv
  · injection hv with h1
    obtain rfl : g = g' := by injection h1 with h1; injection h1
    have hB : Blk w g e cur.toList := by unfold Blk; rw [Array.toArray_toList]; exact hh
    exact hB.frozen i
end Go.Proofs.Ytpkclmfadlkbeaa

namespace Go.Proofs.Ytpkclmfadlkbeaa
open Go.RowKit

/-- Numbers as cells. -/
def natC (l : List Nat) : List Value := l.map fun x : Nat => .int .i64 (x : Int)
theorem natC_length (l : List Nat) : (natC l).length = l.length := by simp [natC]
theorem natC_append (a b : List Nat) : natC (a ++ b) = natC a ++ natC b := by simp [natC]
theorem natC_at (l : List Nat) (i x : Nat) (h : l[i]? = some x) : (natC l)[i]? = some (.int .i64 (x : Int)) := by unfold natC; rw [List.getElem?_map, h]; rfl
theorem natC_one (l : List Nat) : ∀ u ∈ natC l, u.oneCell' = true := by
  intro u hu
  obtain ⟨_, _, rfl⟩ := List.mem_map.1 hu
  rfl
theorem range_natC (i : Nat) : natC (List.range (i + 1)) = natC (List.range i) ++ [.int .i64 (i : Int)] := by rw [List.range_succ, natC_append]; rfl
theorem natC_set (l : List Nat) (i x : Nat) : (natC l).set i (.int .i64 (x : Int)) = natC (l.set i x) := by unfold natC; rw [List.map_set]
theorem natC_replicate (n : Nat) : natC (List.replicate n 0) = List.replicate n (.int .i64 0) := by unfold natC; rw [List.map_replicate]; rfl
theorem natC_map (l : List Nat) : natC l = (l.map fun x : Nat => (x : Int)).map (.int .i64) := by unfold natC; rw [List.map_map]; rfl
theorem natC_nil : natC [] = [] := rfl
theorem natC_snoc (l : List Nat) (x : Nat) : natC (l ++ [x]) = natC l ++ [.int .i64 (x : Int)] := natC_append l [x]
end Go.Proofs.Ytpkclmfadlkbeaa

namespace Go.Proofs.Ytpkclmfadlkbeaa
open Go.Lib

/-- How many are less than x. -/
def cntL (l : List Int) (x : Int) : Nat := l.countP (fun y => decide (y < x))
theorem cntL_le (l : List Int) (x : Int) : cntL l x ≤ l.length := List.countP_le_length
theorem cntL_perm {l k : List Int} (h : l.Perm k) (x : Int) : cntL l x = cntL k x := h.countP_eq _

/-! ### compact of a list that does not fall -/
theorem comp_inv (d : Array Int) (hs : ∀ i j, i ≤ j → j < d.size → d[i]! ≤ d[j]!) : ∀ m, m ≤ d.size →
    (compactUpTo d m).Pairwise (· < ·) ∧ (∀ x, x ∈ compactUpTo d m ↔ ∃ j, j < m ∧ d[j]! = x) := by
  intro m
  induction m with
  | zero =>
    intro _
    have e : compactUpTo d 0 = [] := rfl
    rw [e]
    refine ⟨List.Pairwise.nil, fun x => ?_⟩
    constructor
    · intro h; cases h
    · rintro ⟨j, h, _⟩; omega
  | succ m ih =>
    intro hm
    obtain ⟨h1, h2⟩ := ih (by omega)
    rw [compactUpTo_succ]
    by_cases hk : keeps d m = true
    · rw [if_pos hk]
      have hk2 : m = 0 ∨ d[m]! ≠ d[m - 1]! := by simpa [keeps] using hk
      refine ⟨List.pairwise_append.2 ⟨h1, List.pairwise_singleton _ _, fun a ha b hb => ?_⟩, fun x => ?_⟩
      · rw [List.mem_singleton] at hb
        subst hb
        obtain ⟨j, hj, rfl⟩ := (h2 a).1 ha
        rcases hk2 with h0 | h0
        · omega
        · have ha1 := hs j (m - 1) (by omega) (by omega)
          have ha2 := hs (m - 1) m (by omega) (by omega)
          omega
      · rw [List.mem_append, List.mem_singleton, h2]
        constructor
        · rintro (⟨j, hj, e⟩ | rfl)
          · exact ⟨j, by omega, e⟩
          · exact ⟨m, by omega, rfl⟩
        · rintro ⟨j, hj, rfl⟩
          by_cases e : j = m
          · subst e; exact .inr rfl
          · exact .inl ⟨j, by omega, rfl⟩
    · rw [if_neg hk, List.append_nil]
      have hk2 : ¬ (m = 0 ∨ d[m]! ≠ d[m - 1]!) := by simpa [keeps] using hk
      have hm0 : m ≠ 0 := fun e => hk2 (.inl e)
      have he : d[m]! = d[m - 1]! := by
        rcases Decidable.em (d[m]! = d[m - 1]!) with e | e
        · exact e
        · exact absurd (.inr e) hk2
      refine ⟨h1, fun x => ?_⟩
      rw [h2]
      constructor
      · rintro ⟨j, hj, e⟩
        exact ⟨j, by omega, e⟩
      · rintro ⟨j, hj, rfl⟩
        by_cases e : j = m
        · subst e; exact ⟨j - 1, by omega, he.symm⟩
        · exact ⟨j, by omega, rfl⟩

theorem comp_spec {l : List Int} (hs : l.Pairwise (· ≤ ·)) : (compact l).Pairwise (· < ·) ∧ ∀ x, x ∈ compact l ↔ x ∈ l := by
  have hsz : l.toArray.size = l.length := by simp
  have hg : ∀ i (h : i < l.length), l.toArray[i]! = l[i] := fun i h => by rw [getElem!_pos l.toArray i (by rw [hsz]; exact h)]; simp
  obtain ⟨h1, h2⟩ := comp_inv l.toArray (fun i j hij hj => by
    rw [hsz] at hj
    rw [hg i (by omega), hg j hj]
    rcases Nat.lt_or_ge i j with h | h
    · exact List.pairwise_iff_getElem.1 hs i j (by omega) hj h
    · obtain rfl : i = j := by omega
      exact Int.le_refl _) l.length (by rw [hsz]; exact Nat.le_refl _)
  refine ⟨h1, fun x => ?_⟩
  unfold compact
  rw [h2]
  constructor
  · rintro ⟨j, hj, rfl⟩
    rw [hg j hj]
    exact List.getElem_mem hj
  · intro hx
    obtain ⟨j, hj, rfl⟩ := List.getElem_of_mem hx
    exact ⟨j, hj, hg j hj⟩

/-- The sorted list (as the library's sort leaves it). -/
def srtd (l : List Int) : List Int := l.mergeSort fun x y => decide (x ≤ y)
theorem srtd_perm (l : List Int) : (srtd l).Perm l := List.mergeSort_perm _ _
theorem srtd_sorted (l : List Int) : (srtd l).Pairwise (· ≤ ·) := by
  have h := List.pairwise_mergeSort (le := fun x y : Int => decide (x ≤ y)) (fun a b c h1 h2 => by simp only [decide_eq_true_eq] at *; omega) (fun a b => by simp only [Bool.or_eq_true, decide_eq_true_eq]; omega) l
  exact h.imp (fun h => by simpa using h)

/-- The distinct numbers in increasing order. -/
def dst (l : List Int) : List Int := compact (srtd l)
theorem dst_lt (l : List Int) : (dst l).Pairwise (· < ·) := (comp_spec (srtd_sorted l)).1
theorem dst_mem (l : List Int) (x : Int) : x ∈ dst l ↔ x ∈ l := ((comp_spec (srtd_sorted l)).2 x).trans (srtd_perm l).mem_iff
theorem comp_length_le (l : List Int) : (compact l).length ≤ l.length := by
  unfold compact compactUpTo
  rw [List.length_map]
  exact Nat.le_trans (List.length_filter_le _ _) (by simp)
theorem dst_length_le (l : List Int) : (dst l).length ≤ l.length := Nat.le_trans (comp_length_le _) (Nat.le_of_eq (srtd_perm l).length_eq)

theorem lt_nodup {l : List Int} (h : l.Pairwise (· < ·)) : l.Nodup := h.imp fun h e => by omega
theorem rise_le {l : List Int} (h : l.Pairwise (· < ·)) : l.Pairwise (· ≤ ·) := h.imp fun h => by omega
/-- Two strictly increasing lists of the same numbers are one. -/
theorem lt_ext {l k : List Int} (h1 : l.Pairwise (· < ·)) (h2 : k.Pairwise (· < ·)) (h : ∀ x, x ∈ l ↔ x ∈ k) : l = k :=
  List.Perm.eq_of_pairwise (le := (· ≤ ·)) (fun _ _ _ _ h1 h2 => Int.le_antisymm h1 h2) (rise_le h1) (rise_le h2) ((List.perm_ext_iff_of_nodup (lt_nodup h1) (lt_nodup h2)).2 h)

/-- In a strictly increasing list as many are less than an element as stand before it. -/
theorem cnt_at {s : List Int} (hs : s.Pairwise (· < ·)) {p : Nat} {x : Int} (h : s[p]? = some x) : cntL s x = p := by
  obtain ⟨hp, e⟩ := List.getElem?_eq_some_iff.1 h
  have sp : s = s.take p ++ s.drop p := (List.take_append_drop p s).symm
  unfold cntL
  rw [sp, List.countP_append]
  have h1 : (s.take p).countP (fun y => decide (y < x)) = p := by
    have : (s.take p).countP (fun y => decide (y < x)) = (s.take p).length := List.countP_eq_length.2 fun y hy => by
      obtain ⟨j, hj, rfl⟩ := List.getElem_of_mem hy
      rw [List.length_take] at hj
      rw [List.getElem_take, ← e]
      simpa using List.pairwise_iff_getElem.1 hs j p (by omega) hp (by omega)
    rw [this, List.length_take]
    omega
  have h2 : (s.drop p).countP (fun y => decide (y < x)) = 0 := List.countP_eq_zero.2 fun y hy => by
    obtain ⟨j, hj, rfl⟩ := List.getElem_of_mem hy
    rw [List.length_drop] at hj
    rw [List.getElem_drop, ← e]
    have : s[p] ≤ s[p + j] := by
      rcases Nat.eq_zero_or_pos j with h0 | h0
      · subst h0; exact Int.le_refl _
      · exact Int.le_of_lt (List.pairwise_iff_getElem.1 hs p (p + j) hp (by omega) (by omega))
    simpa using this
  rw [h1, h2]
  rfl
theorem at_cnt {s : List Int} (hs : s.Pairwise (· < ·)) {x : Int} (h : x ∈ s) : s[cntL s x]? = some x := by
  obtain ⟨p, hp, rfl⟩ := List.getElem_of_mem h
  have e : s[p]? = some s[p] := List.getElem?_eq_getElem hp
  rw [cnt_at hs e]
  exact e
/-- One number more is less than x + 1, if x is there. -/
theorem cnt_next {s : List Int} (hs : s.Pairwise (· < ·)) {x : Int} (h : x ∈ s) : cntL s (x + 1) = cntL s x + 1 := by
  obtain ⟨p, hp, rfl⟩ := List.getElem_of_mem h
  rw [cnt_at hs (List.getElem?_eq_getElem hp)]
  by_cases h2 : p + 1 < s.length
  · rw [show p + 1 = cntL s s[p + 1] from (cnt_at hs (List.getElem?_eq_getElem h2)).symm]
    unfold cntL
    refine List.countP_congr fun y hy => ?_
    obtain ⟨j, hj, rfl⟩ := List.getElem_of_mem hy
    have a1 := List.pairwise_iff_getElem.1 hs p (p + 1) hp h2 (by omega)
    have a2 : j ≤ p → s[j] ≤ s[p] := fun hjp => by
      rcases Nat.lt_or_ge j p with h | h
      · exact Int.le_of_lt (List.pairwise_iff_getElem.1 hs j p hj hp h)
      · obtain rfl : j = p := by omega
        exact Int.le_refl _
    have a3 : p + 1 ≤ j → s[p + 1] ≤ s[j] := fun hjp => by
      rcases Nat.lt_or_ge (p + 1) j with h | h
      · exact Int.le_of_lt (List.pairwise_iff_getElem.1 hs (p + 1) j h2 hj h)
      · obtain rfl : j = p + 1 := by omega
        exact Int.le_refl _
    simp only [decide_eq_true_eq]
    constructor
    · intro h
      rcases Nat.lt_or_ge p j with h3 | h3
      · have := a3 h3; omega
      · have := a2 h3; omega
    · intro h
      rcases Nat.lt_or_ge p j with h3 | h3
      · have := a3 h3; omega
      · have := a2 h3; omega
  · have e : p + 1 = s.length := by omega
    unfold cntL
    rw [e]
    refine List.countP_eq_length.2 fun y hy => ?_
    obtain ⟨j, hj, rfl⟩ := List.getElem_of_mem hy
    have : s[j] ≤ s[p] := by
      rcases Nat.lt_or_ge j p with h | h
      · exact Int.le_of_lt (List.pairwise_iff_getElem.1 hs j p hj hp h)
      · obtain rfl : j = p := by omega
        exact Int.le_refl _
    simp only [decide_eq_true_eq]
    omega
theorem cnt_lt {s : List Int} (hs : s.Pairwise (· < ·)) {x : Int} (h : x ∈ s) : cntL s x < s.length := by
  obtain ⟨p, hp, rfl⟩ := List.getElem_of_mem h
  rw [cnt_at hs (List.getElem?_eq_getElem hp)]
  exact hp

/-- The ranks of a list. -/
def rks (l : List Int) : List Int := l.map fun x => (cntL (dst l) x : Int)
theorem rks_length (l : List Int) : (rks l).length = l.length := by simp [rks]
theorem rks_get {l : List Int} {i : Nat} {x : Int} (h : l[i]? = some x) : (rks l)[i]? = some (cntL (dst l) x : Int) := by unfold rks; rw [List.getElem?_map, h]; rfl
/-- The numbers from 0 up. -/
def upto (n : Nat) : List Int := (List.range n).map fun x : Nat => (x : Int)
theorem upto_length (n : Nat) : (upto n).length = n := by simp [upto]
theorem upto_get (n i : Nat) (h : i < n) : (upto n)[i]? = some (i : Int) := by unfold upto; rw [List.getElem?_map, List.getElem?_range h]; rfl
theorem upto_lt (n : Nat) : (upto n).Pairwise (· < ·) := by
  unfold upto
  rw [List.pairwise_map]
  exact List.pairwise_lt_range.imp fun h => by omega
theorem upto_mem (n : Nat) (x : Int) : x ∈ upto n ↔ 0 ≤ x ∧ x < n := by
  unfold upto
  rw [List.mem_map]
  constructor
  · rintro ⟨k, hk, rfl⟩
    have := List.mem_range.1 hk
    omega
  · intro h
    exact ⟨x.toNat, List.mem_range.2 (by omega), by omega⟩
/-- The ranks are all the numbers below the count of the distinct ones. -/
theorem dst_rks (l : List Int) : dst (rks l) = upto (dst l).length := by
  refine lt_ext (dst_lt _) (upto_lt _) fun x => ?_
  rw [dst_mem, upto_mem]
  unfold rks
  rw [List.mem_map]
  constructor
  · rintro ⟨y, hy, rfl⟩
    have := cnt_lt (dst_lt l) ((dst_mem l y).2 hy)
    omega
  · rintro ⟨h1, h2⟩
    have hx : x.toNat < (dst l).length := by omega
    refine ⟨(dst l)[x.toNat], (dst_mem l _).1 (List.getElem_mem hx), ?_⟩
    rw [cnt_at (dst_lt l) (List.getElem?_eq_getElem hx)]
    omega
/-- Ranks of ranks are ranks. -/
theorem rks_rks (l : List Int) : rks (rks l) = rks l := by
  apply List.ext_getElem?
  intro i
  by_cases hi : i < l.length
  · have hx : l[i]? = some l[i] := List.getElem?_eq_getElem hi
    have h1 := rks_get hx
    rw [rks_get h1, h1, dst_rks, cnt_at (upto_lt _) (upto_get _ (cntL (dst l) l[i]) (cnt_lt (dst_lt l) ((dst_mem l _).2 (List.getElem_mem hi))))]
  · rw [List.getElem?_eq_none (by rw [rks_length, rks_length]; omega), List.getElem?_eq_none (by rw [rks_length]; omega)]

/-! ### The document's way: the kinds in the order in which they come -/
def kin (l : List Int) : List Int := l.foldl (fun ks x => if x ∈ ks then ks else ks ++ [x]) []
theorem kin_nil : kin [] = [] := rfl
theorem kin_snoc (l : List Int) (x : Int) : kin (l ++ [x]) = if x ∈ kin l then kin l else kin l ++ [x] := by
  unfold kin
  rw [List.foldl_append]
  rfl
theorem kin_step {l : List Int} {i : Nat} {x : Int} (h : l[i]? = some x) : kin (l.take (i + 1)) = if x ∈ kin (l.take i) then kin (l.take i) else kin (l.take i) ++ [x] := by
  rw [List.take_add_one, h]
  exact kin_snoc _ _
theorem kin_spec (l : List Int) : ∀ i, (kin (l.take i)).Nodup ∧ (∀ x, x ∈ kin (l.take i) ↔ x ∈ l.take i) ∧ (kin (l.take i)).length ≤ i := by
  intro i
  induction i with
  | zero => exact ⟨List.nodup_nil, fun x => Iff.rfl, Nat.le_refl _⟩
  | succ i ih =>
    obtain ⟨h1, h2, h3⟩ := ih
    by_cases hi : i < l.length
    · have hx : l[i]? = some l[i] := List.getElem?_eq_getElem hi
      rw [kin_step hx, List.take_add_one, hx]
      by_cases hm : l[i] ∈ kin (l.take i)
      · rw [if_pos hm]
        refine ⟨h1, fun x => ?_, by omega⟩
        rw [List.mem_append, Option.toList_some, List.mem_singleton, h2]
        exact ⟨Or.inl, fun h => h.elim id fun e => by rw [e]; exact (h2 _).1 hm⟩
      · rw [if_neg hm]
        refine ⟨?_, fun x => ?_, by simp; omega⟩
        · rw [List.nodup_append]
          exact ⟨h1, List.nodup_cons.2 ⟨by simp, List.nodup_nil⟩, fun a ha b hb e => hm (by rw [List.mem_singleton] at hb; rw [← hb, ← e]; exact ha)⟩
        · rw [List.mem_append, List.mem_append, Option.toList_some, List.mem_singleton, h2]
    · rw [List.take_of_length_le (by omega)] at h1 h2 h3 ⊢
      exact ⟨h1, h2, by omega⟩
theorem kin_perm (l : List Int) : (kin l).Perm (dst l) := by
  have h := kin_spec l l.length
  rw [List.take_length] at h
  exact (List.perm_ext_iff_of_nodup h.1 (lt_nodup (dst_lt l))).2 fun x => by rw [h.2.1, dst_mem]
theorem kin_len (l : List Int) : (kin l).length = (dst l).length := (kin_perm l).length_eq
theorem kin_cnt (l : List Int) (x : Int) : cntL (kin l) x = cntL (dst l) x := cntL_perm (kin_perm l) x

/-- A row in which the numbers met already stand at their places. -/
def laidK (s k : List Int) : List Int := s.map fun x => if x ∈ k then x else 0
theorem laidK_length (s k : List Int) : (laidK s k).length = s.length := by simp [laidK]
theorem laidK_nil (s : List Int) : laidK s [] = List.replicate s.length 0 := by
  unfold laidK
  rw [List.eq_replicate_iff]
  refine ⟨by simp, fun b hb => ?_⟩
  obtain ⟨x, _, rfl⟩ := List.mem_map.1 hb
  simp
theorem laidK_step {s : List Int} (hs : s.Pairwise (· < ·)) (k : List Int) {x : Int} (hx : x ∈ s) : (laidK s k).set (cntL s x) x = laidK s (k ++ [x]) := by
  have hp := cnt_lt hs hx
  have hat := at_cnt hs hx
  apply List.ext_getElem?
  intro i
  unfold laidK
  by_cases e : cntL s x = i
  · subst e
    rw [List.getElem?_set_self (by rw [List.length_map]; exact hp), List.getElem?_map, hat]
    simp
  · rw [List.getElem?_set_ne e, List.getElem?_map, List.getElem?_map]
    cases hi : s[i]? with
    | none => rfl
    | some y =>
      have hne : y ≠ x := fun e2 => by subst e2; exact e (cnt_at hs hi)
      simp [hne]
theorem laidK_all {s k : List Int} (h : ∀ x, x ∈ s → x ∈ k) : laidK s k = s := by
  unfold laidK
  conv => rhs; rw [← List.map_id s]
  exact List.map_congr_left fun x hx => if_pos (h x hx)
theorem laidK_kin (l : List Int) : laidK (dst l) (kin l) = dst l := laidK_all fun _ hx => (kin_perm l).mem_iff.2 hx

/-! ### Strictly increasing, by neighbours -/
/-- The first i numbers rise. -/
def IncTo (l : List Int) (i : Nat) : Prop := ∀ j, j + 1 < i → j + 1 < l.length → l.getD j 0 < l.getD (j + 1) 0
theorem incTo_lt {l : List Int} (h : IncTo l l.length) : l.Pairwise (· < ·) := by
  rw [List.pairwise_iff_getElem]
  have aux : ∀ k i, (hi : i + k + 1 < l.length) → l[i]'(by omega) < l[i + k + 1] := by
    intro k
    induction k with
    | zero =>
      intro i hi
      have := h i hi hi
      simpa [List.getD_eq_getElem?_getD, List.getElem?_eq_getElem hi, List.getElem?_eq_getElem (show i < l.length by omega)] using this
    | succ k ih =>
      intro i hi
      have a1 := ih i (by omega)
      have a2 := h (i + k + 1) (by omega) (by omega)
      rw [List.getD_eq_getElem?_getD, List.getD_eq_getElem?_getD, List.getElem?_eq_getElem (show i + k + 1 < l.length by omega), List.getElem?_eq_getElem (show i + k + 1 + 1 < l.length by omega)] at a2
      simp only [Option.getD_some] at a2
      have e : i + (k + 1) + 1 = i + k + 1 + 1 := by omega
      simp only [e]
      omega
  intro i j hi hj hij
  have := aux (j - i - 1) i (by omega)
  simpa [show i + (j - i - 1) + 1 = j by omega] using this
/-- Whether a list is strictly increasing. -/
def inc (l : List Int) : Bool := decide (l.Pairwise (· < ·))
theorem inc_yes {l : List Int} (h : IncTo l l.length) : inc l = true := decide_eq_true (incTo_lt h)
theorem inc_of {l : List Int} (h : l.Pairwise (· < ·)) : inc l = true := decide_eq_true h
theorem inc_lt {l : List Int} (h : inc l = true) : l.Pairwise (· < ·) := of_decide_eq_true h
theorem inc_no {l : List Int} {i : Nat} {x y : Int} (h0 : l[i]? = some x) (h1 : l[i + 1]? = some y) (h : y ≤ x) : inc l = false := decide_eq_false fun hp => by
  obtain ⟨a, e1⟩ := List.getElem?_eq_some_iff.1 h0
  obtain ⟨b, e2⟩ := List.getElem?_eq_some_iff.1 h1
  have := List.pairwise_iff_getElem.1 hp i (i + 1) a b (by omega)
  omega
theorem IncTo.zero (l : List Int) : IncTo l 0 := fun j h => by omega
theorem IncTo.one (l : List Int) : IncTo l 1 := fun j h => by omega
theorem IncTo.step {l : List Int} {i : Nat} {x y : Int} (h : IncTo l (i + 1)) (h0 : l[i]? = some x) (h1 : l[i + 1]? = some y) (hlt : x < y) : IncTo l (i + 2) := fun j hj hl => by
  by_cases e : j = i
  · subst e
    rw [List.getD_eq_getElem?_getD, List.getD_eq_getElem?_getD, h0, h1]
    exact hlt
  · exact h j (by omega) hl
theorem IncTo.past {l : List Int} {i : Nat} (h : IncTo l i) (hi : l.length ≤ i) : inc l = true := inc_yes fun j h1 h2 => h j (by omega) h2

/-- Counting along a list. -/
theorem cntL_take {l : List Int} {i : Nat} {v : Int} (h : l[i]? = some v) (x : Int) : cntL (l.take (i + 1)) x = cntL (l.take i) x + if v < x then 1 else 0 := by
  unfold cntL
  rw [List.take_add_one, h, Option.toList_some, List.countP_append, List.countP_singleton]
  simp
end Go.Proofs.Ytpkclmfadlkbeaa

namespace Go.Proofs.Ytpkclmfadlkbeaa.Words
open Go Go.RowKit

/-- How many zeros a level of n bits has. -/
def zr (n : Nat) (b : Nat → Bool) : Nat := n - tally b n
/-- Where the next level has the number at place i. -/
def tos (n : Nat) (b : Nat → Bool) (i : Nat) : Nat := if b i then zr n b + tally b i else i - tally b i
/-- The number at place i of the first of these levels. -/
def val (n : Nat) : List (Nat → Bool) → Nat → Nat
  | [], _ => 0
  | b :: bs, i => (b i).toNat * 2 ^ bs.length + val n bs (tos n b i)

theorem val_lt (n : Nat) (bs : List (Nat → Bool)) : ∀ i, val n bs i < 2 ^ bs.length := by
  induction bs with
  | nil => intro i; simp [val]
  | cons b bs ih =>
    intro i
    have := ih (tos n b i)
    rw [val, List.length_cons, Nat.pow_succ]
    cases b i <;> simp <;> omega

/-- How many of the numbers of the places from f to t - 1 have the property. -/
def num (n : Nat) (bs : List (Nat → Bool)) (p : Nat → Bool) (f t : Nat) : Int := (tally (fun i => p (val n bs i)) t : Int) - (tally (fun i => p (val n bs i)) f : Int)

theorem part_tally (n : Nat) (b : Nat → Bool) (bs : List (Nat → Bool)) (p : Nat → Bool) (t : Nat) :
    tally (fun i => p (val n (b :: bs) i)) t + tally (fun j => p (2 ^ bs.length + val n bs j)) (zr n b) =
      tally (fun j => p (val n bs j)) (t - tally b t) + tally (fun j => p (2 ^ bs.length + val n bs j)) (zr n b + tally b t) := by
  induction t with
  | zero => simp [tally]
  | succ t ih =>
    have hle := tally_le b t
    rw [tally_succ (fun i => p (val n (b :: bs) i)), tally_succ b]
    cases hb : b t
    · have e : val n (b :: bs) t = val n bs (t - tally b t) := by rw [val, tos, hb]; simp
      rw [e]
      simp only [Bool.toNat_false, Nat.add_zero]
      rw [show t + 1 - tally b t = (t - tally b t) + 1 by omega, tally_succ]
      omega
    · have e : val n (b :: bs) t = 2 ^ bs.length + val n bs (zr n b + tally b t) := by rw [val, tos, hb]; simp
      rw [e]
      simp only [Bool.toNat_true]
      rw [show t + 1 - (tally b t + 1) = t - tally b t by omega, ← Nat.add_assoc, tally_succ (fun j => p (2 ^ bs.length + val n bs j))]
      omega

/-- A level parts the numbers of a range. -/
theorem num_part (n : Nat) (b : Nat → Bool) (bs : List (Nat → Bool)) (p : Nat → Bool) (f t : Nat) :
    num n (b :: bs) p f t = num n bs p (f - tally b f) (t - tally b t) + num n bs (fun v => p (2 ^ bs.length + v)) (zr n b + tally b f) (zr n b + tally b t) := by
  have h1 := part_tally n b bs p f
  have h2 := part_tally n b bs p t
  simp only [num]
  omega

theorem tally_all (p : Nat → Bool) (t : Nat) (h : ∀ i, i < t → p i = true) : tally p t = t := by
  induction t with
  | zero => rfl
  | succ t ih => rw [tally, ih fun i hi => h i (by omega), h t (by omega)]; rfl
theorem tally_none (p : Nat → Bool) (t : Nat) (h : ∀ i, i < t → p i = false) : tally p t = 0 := by
  induction t with
  | zero => rfl
  | succ t ih => rw [tally, ih fun i hi => h i (by omega), h t (by omega)]; rfl
theorem num_all (n : Nat) (bs : List (Nat → Bool)) (p : Nat → Bool) (f t : Nat) (h : ∀ v, v < 2 ^ bs.length → p v = true) : num n bs p f t = (t : Int) - f := by
  unfold num
  rw [tally_all _ t fun i _ => h _ (val_lt n bs i), tally_all _ f fun i _ => h _ (val_lt n bs i)]
theorem num_none (n : Nat) (bs : List (Nat → Bool)) (p : Nat → Bool) (f t : Nat) (h : ∀ v, v < 2 ^ bs.length → p v = false) : num n bs p f t = 0 := by
  unfold num
  rw [tally_none _ t fun i _ => h _ (val_lt n bs i), tally_none _ f fun i _ => h _ (val_lt n bs i)]; rfl
theorem num_congr (n : Nat) (bs : List (Nat → Bool)) (p q : Nat → Bool) (f t : Nat) (h : ∀ v, v < 2 ^ bs.length → p v = q v) : num n bs p f t = num n bs q f t := by
  unfold num
  rw [tally_congr (q := fun i => q (val n bs i)) (n := t) fun i _ => h _ (val_lt n bs i), tally_congr (q := fun i => q (val n bs i)) (n := f) fun i _ => h _ (val_lt n bs i)]

theorem tally_step_le (p : Nat → Bool) (f t : Nat) (h : f ≤ t) : tally p t ≤ tally p f + (t - f) := by
  obtain ⟨c, rfl⟩ := Nat.exists_eq_add_of_le h
  rw [tally_add]
  have := tally_le (fun i => p (f + i)) c
  omega
theorem num_nonneg (n : Nat) (bs : List (Nat → Bool)) (p : Nat → Bool) (f t : Nat) (h : f ≤ t) : 0 ≤ num n bs p f t := by
  unfold num
  have := tally_mono (fun i => p (val n bs i)) h
  omega
theorem num_le (n : Nat) (bs : List (Nat → Bool)) (p : Nat → Bool) (f t : Nat) (h : f ≤ t) : num n bs p f t ≤ (t : Int) - f := by
  unfold num
  have := tally_step_le (fun i => p (val n bs i)) f t h
  omega
/-- How many differ less where less have the property. -/
theorem tally_imp (p q : Nat → Bool) (h : ∀ i, p i = true → q i = true) (f t : Nat) (hft : f ≤ t) : (tally p t : Int) - tally p f ≤ (tally q t : Int) - tally q f := by
  obtain ⟨c, rfl⟩ := Nat.exists_eq_add_of_le hft
  rw [tally_add, tally_add]
  have : tally (fun i => p (f + i)) c ≤ tally (fun i => q (f + i)) c := by
    clear hft
    induction c with
    | zero => simp [tally]
    | succ c ih =>
      rw [tally, tally]
      cases hp : p (f + c)
      · simp; omega
      · rw [h _ hp]; simp; omega
  omega
theorem num_imp (n : Nat) (bs : List (Nat → Bool)) (p q : Nat → Bool) (h : ∀ v, p v = true → q v = true) (f t : Nat) (hft : f ≤ t) : num n bs p f t ≤ num n bs q f t := by
  unfold num
  exact tally_imp _ _ (fun i => h _) f t hft

/-- How many are less than x. -/
def less (n : Nat) (bs : List (Nat → Bool)) (x : Nat) (f t : Nat) : Int := num n bs (fun v => decide (v < x)) f t
/-- How many are x. -/
def same (n : Nat) (bs : List (Nat → Bool)) (x : Nat) (f t : Nat) : Int := num n bs (fun v => decide (v = x)) f t

theorem less_mono (n : Nat) (bs : List (Nat → Bool)) (x y : Nat) (h : x ≤ y) (f t : Nat) (hft : f ≤ t) : less n bs x f t ≤ less n bs y f t :=
  num_imp n bs _ _ (fun v hv => by simp at hv ⊢; omega) f t hft
theorem less_big (n : Nat) (bs : List (Nat → Bool)) (x : Nat) (h : 2 ^ bs.length ≤ x) (f t : Nat) : less n bs x f t = (t : Int) - f := num_all n bs _ f t fun v hv => by simp; omega
theorem same_big (n : Nat) (bs : List (Nat → Bool)) (x : Nat) (h : 2 ^ bs.length ≤ x) (f t : Nat) : same n bs x f t = 0 := num_none n bs _ f t fun v hv => by simp; omega
theorem less_zero (n : Nat) (bs : List (Nat → Bool)) (f t : Nat) : less n bs 0 f t = 0 := num_none n bs _ f t fun v hv => by simp
theorem less_nonneg (n : Nat) (bs : List (Nat → Bool)) (x f t : Nat) (h : f ≤ t) : 0 ≤ less n bs x f t := num_nonneg _ _ _ _ _ h
theorem less_le (n : Nat) (bs : List (Nat → Bool)) (x f t : Nat) (h : f ≤ t) : less n bs x f t ≤ (t : Int) - f := num_le _ _ _ _ _ h
theorem less_nil (n f t : Nat) : less n [] 0 f t = 0 := less_zero n [] f t
theorem same_nil (n f t : Nat) : same n [] 0 f t = (t : Int) - f := num_all n [] _ f t fun v hv => by simp at hv ⊢; exact hv

/-- One level of a comparison: the digit is 0. -/
theorem less_zero_digit (n : Nat) (b : Nat → Bool) (bs : List (Nat → Bool)) (x : Nat) (hx : x < 2 ^ bs.length) (f t : Nat) :
    less n (b :: bs) x f t = less n bs x (f - tally b f) (t - tally b t) := by
  unfold less
  rw [num_part, num_none n bs (fun v => decide (2 ^ bs.length + v < x)) _ _ (fun v _ => by simp; omega)]
  omega
theorem same_zero_digit (n : Nat) (b : Nat → Bool) (bs : List (Nat → Bool)) (x : Nat) (hx : x < 2 ^ bs.length) (f t : Nat) :
    same n (b :: bs) x f t = same n bs x (f - tally b f) (t - tally b t) := by
  unfold same
  rw [num_part, num_none n bs (fun v => decide (2 ^ bs.length + v = x)) _ _ (fun v _ => by simp; omega)]
  omega
/-- .. the digit is 1. -/
theorem less_one_digit (n : Nat) (b : Nat → Bool) (bs : List (Nat → Bool)) (x : Nat) (f t : Nat) :
    less n (b :: bs) (2 ^ bs.length + x) f t = ((t - tally b t : Nat) : Int) - ((f - tally b f : Nat) : Int) + less n bs x (zr n b + tally b f) (zr n b + tally b t) := by
  unfold less
  rw [num_part, num_all n bs (fun v => decide (v < 2 ^ bs.length + x)) _ _ (fun v _ => by simp; omega), num_congr n bs (fun v => decide (2 ^ bs.length + v < 2 ^ bs.length + x)) (fun v => decide (v < x)) _ _ (fun v _ => by simp)]
theorem same_one_digit (n : Nat) (b : Nat → Bool) (bs : List (Nat → Bool)) (x : Nat) (f t : Nat) :
    same n (b :: bs) (2 ^ bs.length + x) f t = same n bs x (zr n b + tally b f) (zr n b + tally b t) := by
  unfold same
  rw [num_part, num_none n bs (fun v => decide (v = 2 ^ bs.length + x)) _ _ (fun v _ => by simp; omega), num_congr n bs (fun v => decide (2 ^ bs.length + v = 2 ^ bs.length + x)) (fun v => decide (v = x)) _ _ (fun v _ => by simp)]
  omega

/-- The number with index k in the sorted list of the numbers from f to t - 1. -/
def kv (n : Nat) : List (Nat → Bool) → Nat → Nat → Nat → Nat
  | [], _, _, _ => 0
  | b :: bs, f, t, k =>
    if k < (t - tally b t) - (f - tally b f) then kv n bs (f - tally b f) (t - tally b t) k
    else 2 ^ bs.length + kv n bs (zr n b + tally b f) (zr n b + tally b t) (k - ((t - tally b t) - (f - tally b f)))

theorem kv_lt (n : Nat) (bs : List (Nat → Bool)) : ∀ f t k, kv n bs f t k < 2 ^ bs.length := by
  induction bs with
  | nil => intro f t k; simp [kv]
  | cons b bs ih =>
    intro f t k
    rw [kv, List.length_cons, Nat.pow_succ]
    split
    · have := ih (f - tally b f) (t - tally b t) k; omega
    · have := ih (zr n b + tally b f) (zr n b + tally b t) (k - ((t - tally b t) - (f - tally b f))); omega

theorem zeros_mono (b : Nat → Bool) {f t : Nat} (h : f ≤ t) : f - tally b f ≤ t - tally b t := by
  have := tally_step_le b f t h
  have := tally_le b f
  omega

theorem kv_spec (n : Nat) (bs : List (Nat → Bool)) : ∀ f t k, f ≤ t → k < t - f → less n bs (kv n bs f t k) f t ≤ k ∧ (k : Int) < less n bs (kv n bs f t k + 1) f t := by
  induction bs with
  | nil =>
    intro f t k h hk
    rw [kv, less_zero, less_big n [] (0 + 1) (by simp) f t]
    omega
  | cons b bs ih =>
    intro f t k h hk
    have hz := zeros_mono b h
    have ho := tally_mono b h
    have hl1 := tally_le b f
    have hl2 := tally_le b t
    rw [kv]
    split
    · rename_i hlt
      have hv := kv_lt n bs (f - tally b f) (t - tally b t) k
      obtain ⟨h1, h2⟩ := ih (f - tally b f) (t - tally b t) k hz hlt
      refine ⟨by rw [less_zero_digit n b bs _ hv]; exact h1, ?_⟩
      by_cases hs : kv n bs (f - tally b f) (t - tally b t) k + 1 < 2 ^ bs.length
      · rw [less_zero_digit n b bs _ hs]; exact h2
      · rw [show kv n bs (f - tally b f) (t - tally b t) k + 1 = 2 ^ bs.length + 0 by omega, less_one_digit, less_zero]
        omega
    · rename_i hlt
      obtain ⟨h1, h2⟩ := ih (zr n b + tally b f) (zr n b + tally b t) (k - ((t - tally b t) - (f - tally b f))) (by omega) (by omega)
      rw [less_one_digit, Nat.add_assoc, less_one_digit]
      omega

/-- There is one such number alone. -/
theorem kth_unique (n : Nat) (bs : List (Nat → Bool)) (f t : Nat) (k : Int) (u v : Nat) (h : f ≤ t) (h1 : less n bs u f t ≤ k) (h2 : k < less n bs (u + 1) f t) (g1 : less n bs v f t ≤ k) (g2 : k < less n bs (v + 1) f t) : u = v := by
  rcases Nat.lt_trichotomy u v with e | e | e
  · have := less_mono n bs (u + 1) v e f t h; omega
  · exact e
  · have := less_mono n bs (v + 1) u e f t h; omega

/-- Among the numbers of a range that are counted is one. -/
theorem tally_some (p : Nat → Bool) (f t : Nat) (h : tally p f < tally p t) : ∃ i, f ≤ i ∧ i < t ∧ p i = true := by
  induction t with
  | zero => simp [tally] at h
  | succ t ih =>
    rw [tally] at h
    by_cases hft : f ≤ t
    · cases hp : p t
      · rw [hp] at h
        obtain ⟨i, h1, h2, h3⟩ := ih (by simpa using h)
        exact ⟨i, h1, by omega, h3⟩
      · exact ⟨t, hft, by omega, hp⟩
    · have := tally_mono p (show t + 1 ≤ f by omega)
      rw [tally] at this; omega
theorem num_some (n : Nat) (bs : List (Nat → Bool)) (p : Nat → Bool) (f t : Nat) (h : 0 < num n bs p f t) : ∃ i, f ≤ i ∧ i < t ∧ p (val n bs i) = true := by
  unfold num at h
  exact tally_some _ f t (by omega)

theorem same_less (n : Nat) (bs : List (Nat → Bool)) (x f t : Nat) : less n bs (x + 1) f t = less n bs x f t + same n bs x f t := by
  have key : ∀ m, tally (fun i => decide (val n bs i < x + 1)) m = tally (fun i => decide (val n bs i < x)) m + tally (fun i => decide (val n bs i = x)) m := by
    intro m
    induction m with
    | zero => rfl
    | succ m ih =>
      rw [tally, tally, tally, ih]
      rcases Nat.lt_trichotomy (val n bs m) x with e | e | e
      · simp [show val n bs m < x + 1 by omega, e, show ¬ val n bs m = x by omega]; omega
      · simp [e]; omega
      · simp [show ¬ val n bs m < x + 1 by omega, show ¬ val n bs m < x by omega, show ¬ val n bs m = x by omega]
  simp only [less, same, num]
  rw [key t, key f]
  omega

/-- The number of one place. -/
theorem kv_one (n : Nat) (bs : List (Nat → Bool)) (i : Nat) : kv n bs i (i + 1) 0 = val n bs i := by
  obtain ⟨h1, h2⟩ := kv_spec n bs i (i + 1) 0 (by omega) (by omega)
  refine kth_unique n bs i (i + 1) 0 _ _ (by omega) h1 h2 ?_ ?_
  · simp [less, num, tally]
  · simp [less, num, tally]; omega

theorem num_cut (n : Nat) (bs : List (Nat → Bool)) (p : Nat → Bool) (f m t : Nat) : num n bs p f m + num n bs p m t = num n bs p f t := by unfold num; omega
end Go.Proofs.Ytpkclmfadlkbeaa.Words

namespace Go.Proofs.Ytpkclmfadlkbeaa
open Go.RowKit

/-- 'append(out, u)', one cell an element, out nil or the call's own. -/
theorem append_one_at {P : Program} (w : World) {ops : Array Oper} {rest : List Oper} {o : Oper} {a : Act} {Q : Exit → Act → World → Prop} (hgd : o.guard = none) (s x : Operand) (t : TypeId)
    (ho : o.op = .call { callee := .builtin .append, args := #[s, x], argTypes := #[t, t] }) (base : Nat) (e : TypeId) (z : Value) (bytes : Nat) (ht : P.underlying t = some (.slice e))
    (hinfo : (P.info? e).map (fun i => (i.zero, i.size, i.bytes)) = some (some z, 1, bytes)) (hz : z.cells.size = 1) (v : Value) (n : Nat) (xs : List Value) (hs : a.eval s = v) (hown : w.ownsRow base e 1 v n xs)
    (g c : Nat) (u : Value) (hx : a.eval x = .slice (some ⟨g, 0, none⟩) 1 c) (hu : w.cell? ⟨g, 0, none⟩ = some u) (h1 : u.oneCell' = true) (h63 : n + 1 ≤ maxLen) (hbytes : (n + 1) * bytes ≤ 140737488355328) (hbase : base ≤ w.heap.size)
    (h : ∀ v' w', w'.ownsRow base e 1 v' (n + 1) (xs ++ [u]) → w.grownBy w' v.ownBlock → (v'.ownBlock = v.ownBlock ∨ v'.ownBlock = some w.heap.size) → wpList P ops Q rest (a.put o.dst v') w') : wpList P ops Q (o :: rest) a w := by
  obtain ⟨i, hi, hz0, hz1, hz2⟩ := info_parts hinfo
  refine wpList_append_own_at w hgd s x t ho base e i z 1 bytes ht hi hz0 hz1 hz2 hz (by decide) v n xs hs hown ⟨g, 0, none⟩ 1 c [u] hx rfl ?_ ?_ h63 hbytes hbase fun v' w' h2 h3 _ h4 => h v' w' h2 h3 h4
  · intro j u' hj
    match j, hj with
    | 0, hj =>
      obtain rfl : u = u' := by simpa using hj
      exact hu
  · intro u' hu'
    obtain rfl : u' = u := by simpa using hu'
    exact h1

/-- 'append(out, xs...)', one cell an element, out nil or the call's own, xs nil or in memory. -/
theorem append_from_at {P : Program} (w : World) {ops : Array Oper} {rest : List Oper} {o : Oper} {a : Act} {Q : Exit → Act → World → Prop} (hgd : o.guard = none) (s x : Operand) (t : TypeId)
    (ho : o.op = .call { callee := .builtin .append, args := #[s, x], argTypes := #[t, t] }) (base : Nat) (e : TypeId) (z : Value) (bytes : Nat) (ht : P.underlying t = some (.slice e))
    (hinfo : (P.info? e).map (fun i => (i.zero, i.size, i.bytes)) = some (some z, 1, bytes)) (hz : z.cells.size = 1) (v : Value) (n : Nat) (xs : List Value) (hs : a.eval s = v) (hown : w.ownsRow base e 1 v n xs)
    (A : Option Addr) (m c : Nat) (news : List Value) (hx : a.eval x = .slice A m c) (hm : news.length = m) (hnone : A = none → c = 0) (hl : Lies w w.heap.size A news) (h1 : ∀ u ∈ news, u.oneCell' = true) (h63 : n + m ≤ maxLen) (hbytes : (n + m) * bytes ≤ 140737488355328) (hbase : base ≤ w.heap.size)
    (h : ∀ v' w', w'.ownsRow base e 1 v' (n + m) (xs ++ news) → w.grownBy w' v.ownBlock → (v'.ownBlock = v.ownBlock ∨ v'.ownBlock = some w.heap.size) → wpList P ops Q rest (a.put o.dst v') w') : wpList P ops Q (o :: rest) a w := by
  obtain ⟨i, hi, hz0, hz1, hz2⟩ := info_parts hinfo
  cases A with
  | none =>
    have hc := hnone rfl
    have hn : news = [] := by
      by_cases hne : news = []
      · exact hne
      · obtain ⟨b, o', e', _⟩ := hl hne
        cases e'
    subst hn
    have hm0 : m = 0 := hm.symm
    subst hm0 hc
    exact wpList_append_own_none hgd s x t ho base e i 1 ht hi v n xs hs hown hx (h v w (by simpa using hown) ⟨rfl, rfl, rfl, Nat.le_refl _, fun _ _ _ => rfl⟩ (.inl rfl))
  | some ad =>
    refine wpList_append_own_at w hgd s x t ho base e i z 1 bytes ht hi hz0 hz1 hz2 hz (by decide) v n xs hs hown ad m c news hx (by omega) ?_ h1 h63 hbytes hbase fun v' w' h2 h3 _ h4 => h v' w' h2 h3 h4
    intro j u hj
    obtain ⟨b, o', e', _, hc⟩ := hl (by intro e'; subst e'; simp at hj)
    obtain rfl := Option.some.inj e'
    rw [Addr.add_lit]
    exact hc j u hj
end Go.Proofs.Ytpkclmfadlkbeaa

namespace Go.Proofs.Ytpkclmfadlkbeaa
open Go.RowKit

/-- 'append(out, u)', sz cells an element, out nil or the call's own. -/
theorem append_rec {P : Program} (w : World) {ops : Array Oper} {rest : List Oper} {o : Oper} {a : Act} {Q : Exit → Act → World → Prop} (hgd : o.guard = none) (s x : Operand) (t : TypeId)
    (ho : o.op = .call { callee := .builtin .append, args := #[s, x], argTypes := #[t, t] }) (base : Nat) (e : TypeId) (z : Value) (sz bytes : Nat) (ht : P.underlying t = some (.slice e))
    (hinfo : (P.info? e).map (fun i => (i.zero, i.size, i.bytes)) = some (some z, sz, bytes)) (hz : z.cells.size = sz) (hsz : 0 < sz) (v : Value) (n : Nat) (xs : List Value) (hs : a.eval s = v) (hown : w.ownsRow base e sz v n xs)
    (g c : Nat) (us : List Value) (hx : a.eval x = .slice (some ⟨g, 0, none⟩) 1 c) (hl : us.length = sz) (hu : ∀ j u, us[j]? = some u → w.cell? ⟨g, j, none⟩ = some u) (h1 : ∀ u ∈ us, u.oneCell' = true) (h63 : n + 1 ≤ maxLen) (hbytes : (n + 1) * bytes ≤ 140737488355328) (hbase : base ≤ w.heap.size)
    (h : ∀ v' w', w'.ownsRow base e sz v' (n + 1) (xs ++ us) → w.grownBy w' v.ownBlock → wpList P ops Q rest (a.put o.dst v') w') : wpList P ops Q (o :: rest) a w := by
  obtain ⟨i, hi, hz0, hz1, hz2⟩ := info_parts hinfo
  refine wpList_append_own w hgd s x t ho base e i z sz bytes ht hi hz0 hz1 hz2 hz hsz v n xs hs hown ⟨g, 0, none⟩ 1 c us hx (by omega) ?_ h1 h63 hbytes hbase fun v' w' h2 h3 _ => h v' w' h2 h3
  intro j u hj
  rw [Addr.add_lit, Nat.zero_add]
  exact hu j u hj

end Go.Proofs.Ytpkclmfadlkbeaa
