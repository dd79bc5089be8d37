/-
  Plain mathematics of 64-bit words, of no program: how many one bits a number has below a place ('cnt'), that the parallel sum of adjacent bits counts them, that the exchange of ever greater groups turns a word round. Numbers are natural numbers; no condition but what each theorem names. Plain mathematics of bit vectors laid in words of 64 bits, of no program: the bits, how many of them are one, what makes a vector valid. Words for memory, of no program: a slice that holds a list of one-cell values (nil let in), what becomes of it where new memory is made. Plain mathematics of bools laid in words of 64 bits, of no program: the words after i of them are laid, one step more, what bits they have. Words for memory, of no program: rows that a call owns, where other blocks are made or written. Numbers as cells, of no program. Plain mathematics of a stable sort by whatever order is asked: rows as functions, exchanged and turned ranges, merging in place. Points and rectangles: plain mathematics (valid, in a rectangle, the places of those that are) and memory. The orders of points that the document's grid answers go by. 'append' of one cell, or of a slice, to a slice of the call's own: where the new slice lies. No condition but what each theorem names.
-/
import Derived.Laws.Bits64b
import Derived.Laws.BitsAllLaws
import Derived.Laws.BitsLemmas
import Derived.RowKit
import Derived.Below
import Derived.Laws.OwnMore
import Derived.Deep.Draws
import Derived.Lib.Hide
import Derived.Calls
import Derived.OwnWalk
import Derived.Laws.MakeOwn
import Derived.Laws.AppendOwnNone
import Derived.Deep.QuietTactic
import Derived.Sort.LotA
import Derived.Maps.AppendAt
namespace Go.Proofs.YtpkclmfadlkbeaaDoor.Words
open Go Go.RowKit

/-- How many of the bits 0 .. k-1 of x are one. -/
def cnt (x : Nat) : Nat → Nat
  | 0 => 0
  | k + 1 => cnt x k + (x.testBit k).toNat

theorem cnt_le (x k : Nat) : cnt x k ≤ k := by
  induction k with
  | zero => simp [cnt]
  | succ k ih => simp only [cnt]; cases x.testBit k <;> simp <;> omega

theorem cnt_succ (x k : Nat) : cnt x (k + 1) = cnt x k + (x.testBit k).toNat := rfl

theorem cnt_mono (x k m : Nat) (h : k ≤ m) : cnt x k ≤ cnt x m := by
  induction m with
  | zero => have : k = 0 := by omega
            subst this; exact Nat.le_refl _
  | succ m ih =>
    by_cases e : k = m + 1
    · subst e; exact Nat.le_refl _
    · have := ih (by omega); rw [cnt_succ]; omega

theorem cnt_congr (x y k : Nat) (h : ∀ i, i < k → x.testBit i = y.testBit i) : cnt x k = cnt y k := by
  induction k with
  | zero => rfl
  | succ k ih => rw [cnt_succ, cnt_succ, ih (fun i hi => h i (by omega)), h k (by omega)]

theorem cnt_add (x a b : Nat) : cnt x (a + b) = cnt x a + cnt (x / 2 ^ a) b := by
  induction b with
  | zero => simp [cnt]
  | succ b ih => rw [← Nat.add_assoc, cnt_succ, cnt_succ, ih, Nat.testBit_div_two_pow]; rw [Nat.add_comm b a]; omega

theorem cnt_mod (x a : Nat) : cnt (x % 2 ^ a) a = cnt x a :=
  cnt_congr _ _ _ fun i hi => by rw [Nat.testBit_mod_two_pow]; simp [hi]

/-- Behind a cut at i there is nothing more. -/
theorem cnt_cut (x i k : Nat) (h : i ≤ k) : cnt (x % 2 ^ i) k = cnt x i := by
  obtain ⟨d, rfl⟩ : ∃ d, k = i + d := ⟨k - i, by omega⟩
  rw [cnt_add, cnt_mod]
  have hz : x % 2 ^ i / 2 ^ i = 0 := Nat.div_eq_of_lt (Nat.mod_lt _ (Nat.two_pow_pos i))
  rw [hz]
  have : ∀ d, cnt 0 d = 0 := by
    intro d
    induction d with
    | zero => rfl
    | succ d ih => rw [cnt_succ, ih]; simp
  rw [this]; rfl

theorem cnt_zero_of (x k : Nat) (h : cnt x k = 0) : ∀ i, i < k → x.testBit i = false := by
  induction k with
  | zero => intro i hi; omega
  | succ k ih =>
    rw [cnt_succ] at h
    intro i hi
    by_cases e : i = k
    · subst e; cases hb : x.testBit i
      · rfl
      · rw [hb] at h; simp at h
    · exact ih (by omega) i (by omega)

/-! ### The parallel sum -/

def mk (c : Nat) : Nat → Nat
  | 0 => 0
  | n + 1 => c + 256 * mk c n

theorem and_split (a c m : Nat) (hc : c < 256) : a &&& (c + 256 * m) = ((a % 256) &&& c) + 256 * ((a / 256) &&& m) := by
  have h1 : (a &&& (c + 256 * m)) % 2 ^ 8 = a % 2 ^ 8 &&& (c + 256 * m) % 2 ^ 8 := Nat.and_mod_two_pow
  have h2 : (a &&& (c + 256 * m)) / 2 ^ 8 = a / 2 ^ 8 &&& (c + 256 * m) / 2 ^ 8 := Nat.and_div_two_pow
  have e1 : (c + 256 * m) % 2 ^ 8 = c := by omega
  have e2 : (c + 256 * m) / 2 ^ 8 = m := by omega
  rw [e1] at h1
  rw [e2] at h2
  have e3 : a % 2 ^ 8 = a % 256 := by omega
  have e4 : a / 2 ^ 8 = a / 256 := by omega
  rw [e3] at h1
  rw [e4] at h2
  omega

def a1 (b : Nat) : Nat := (b / 2 &&& 85) + (b &&& 85)
def a2 (b : Nat) : Nat := (b / 4 &&& 51) + (b &&& 51)
def s1 (n x : Nat) : Nat := (x / 2 &&& mk 85 n) + (x &&& mk 85 n)
def s2 (n x : Nat) : Nat := (x / 4 &&& mk 51 n) + (x &&& mk 51 n)
def s3 (n x : Nat) : Nat := (x / 16 + x) &&& mk 15 n

theorem cross1 : ∀ v : Fin 512, (v.val / 2 &&& 85) = (v.val % 256 / 2 &&& 85) := by decide +kernel
theorem cross2 : ∀ v : Fin 1024, (v.val / 4 &&& 51) = (v.val % 256 / 4 &&& 51) := by decide +kernel
theorem bytes : ∀ b : Fin 256, a1 b.val < 256 ∧ a2 (a1 b.val) % 16 ≤ 4 ∧ a2 (a1 b.val) / 16 ≤ 4 ∧ a2 (a1 b.val) / 16 + a2 (a1 b.val) % 16 = cnt b.val 8 := by decide +kernel

theorem s1_succ (n x : Nat) : s1 (n + 1) x = a1 (x % 256) + 256 * s1 n (x / 256) := by
  unfold s1 a1
  rw [mk, and_split _ _ _ (by decide), and_split _ _ _ (by decide)]
  have h := cross1 ⟨x % 512, Nat.mod_lt _ (by decide)⟩
  simp only at h
  have e1 : x % 512 / 2 = x / 2 % 256 := by omega
  have e2 : x % 512 % 256 = x % 256 := by omega
  have e3 : x / 2 / 256 = x / 256 / 2 := by omega
  rw [e1, e2] at h
  rw [h, e3]
  omega

theorem s2_succ (n x : Nat) : s2 (n + 1) x = a2 (x % 256) + 256 * s2 n (x / 256) := by
  unfold s2 a2
  rw [mk, and_split _ _ _ (by decide), and_split _ _ _ (by decide)]
  have h := cross2 ⟨x % 1024, Nat.mod_lt _ (by decide)⟩
  simp only at h
  have e1 : x % 1024 / 4 = x / 4 % 256 := by omega
  have e2 : x % 1024 % 256 = x % 256 := by omega
  have e3 : x / 4 / 256 = x / 256 / 4 := by omega
  rw [e1, e2] at h
  rw [h, e3]
  omega

theorem s12_succ (n x : Nat) : s2 (n + 1) (s1 (n + 1) x) = a2 (a1 (x % 256)) + 256 * s2 n (s1 n (x / 256)) := by
  have hb := (bytes ⟨x % 256, Nat.mod_lt _ (by decide)⟩).1
  simp only at hb
  rw [s2_succ, s1_succ]
  have e1 : (a1 (x % 256) + 256 * s1 n (x / 256)) % 256 = a1 (x % 256) := by omega
  have e2 : (a1 (x % 256) + 256 * s1 n (x / 256)) / 256 = s1 n (x / 256) := by omega
  rw [e1, e2]

theorem s12_low (n x : Nat) : s2 n (s1 n x) % 16 ≤ 4 := by
  cases n with
  | zero => simp [s2, mk]
  | succ n =>
    rw [s12_succ]
    have hb := (bytes ⟨x % 256, Nat.mod_lt _ (by decide)⟩).2.1
    simp only at hb
    omega

theorem s123_succ (n x : Nat) : s3 (n + 1) (s2 (n + 1) (s1 (n + 1) x)) = cnt (x % 256) 8 + 256 * s3 n (s2 n (s1 n (x / 256))) := by
  have hl := s12_low n (x / 256)
  rw [s12_succ]
  obtain ⟨_, hb1, hb2, hb3⟩ := bytes ⟨x % 256, Nat.mod_lt _ (by decide)⟩
  simp only at hb1 hb2 hb3
  rw [← hb3]
  generalize a2 (a1 (x % 256)) = t at *
  generalize s2 n (s1 n (x / 256)) = y at *
  unfold s3
  rw [mk, and_split _ _ _ (by decide), nat_mask4]
  have e1 : ((t + 256 * y) / 16 + (t + 256 * y)) % 256 % 16 = t / 16 + t % 16 := by omega
  have e2 : ((t + 256 * y) / 16 + (t + 256 * y)) / 256 = y / 16 + y := by omega
  rw [e1, e2]

theorem cnt_bytes (x n : Nat) : cnt x (8 + n) = cnt (x % 256) 8 + cnt (x / 256) n := by
  rw [cnt_add]; rw [← cnt_mod x 8]

/-- The eight bytes' counts, as they lie behind the third step. -/
theorem s123_eight (x : Nat) : ∃ p0 p1 p2 p3 p4 p5 p6 p7 : Nat, p0 ≤ 8 ∧ p1 ≤ 8 ∧ p2 ≤ 8 ∧ p3 ≤ 8 ∧ p4 ≤ 8 ∧ p5 ≤ 8 ∧ p6 ≤ 8 ∧ p7 ≤ 8 ∧
    s3 8 (s2 8 (s1 8 x)) = p0 + 256 * (p1 + 256 * (p2 + 256 * (p3 + 256 * (p4 + 256 * (p5 + 256 * (p6 + 256 * p7)))))) ∧ cnt x 64 = p0 + (p1 + (p2 + (p3 + (p4 + (p5 + (p6 + p7)))))) := by
  refine ⟨cnt (x % 256) 8, cnt (x / 256 % 256) 8, cnt (x / 256 / 256 % 256) 8, cnt (x / 256 / 256 / 256 % 256) 8, cnt (x / 256 / 256 / 256 / 256 % 256) 8, cnt (x / 256 / 256 / 256 / 256 / 256 % 256) 8, cnt (x / 256 / 256 / 256 / 256 / 256 / 256 % 256) 8, cnt (x / 256 / 256 / 256 / 256 / 256 / 256 / 256 % 256) 8, cnt_le _ 8, cnt_le _ 8, cnt_le _ 8, cnt_le _ 8, cnt_le _ 8, cnt_le _ 8, cnt_le _ 8, cnt_le _ 8, ?_, ?_⟩
  · rw [s123_succ, s123_succ, s123_succ, s123_succ, s123_succ, s123_succ, s123_succ, s123_succ]
    simp [s3, mk]
  · rw [cnt_bytes x 56, cnt_bytes _ 48, cnt_bytes _ 40, cnt_bytes _ 32, cnt_bytes _ 24, cnt_bytes _ 16, cnt_bytes _ 8, ← cnt_mod (x / 256 / 256 / 256 / 256 / 256 / 256 / 256) 8]

theorem swar_end (p0 p1 p2 p3 p4 p5 p6 p7 y : Nat) (b0 : p0 ≤ 8) (b1 : p1 ≤ 8) (b2 : p2 ≤ 8) (b3 : p3 ≤ 8) (b4 : p4 ≤ 8) (b5 : p5 ≤ 8) (b6 : p6 ≤ 8) (b7 : p7 ≤ 8)
    (e : y = p0 + 256 * (p1 + 256 * (p2 + 256 * (p3 + 256 * (p4 + 256 * (p5 + 256 * (p6 + 256 * p7))))))) :
    ∃ r, y + y / 256 + (y + y / 256) / 65536 + (y + y / 256 + (y + y / 256) / 65536) / 4294967296 = r ∧ r < 9223372036854775808 ∧ r % 128 = p0 + (p1 + (p2 + (p3 + (p4 + (p5 + (p6 + p7)))))) := by
  obtain ⟨Y4, h4⟩ : ∃ Y, Y = p4 + 256 * (p5 + 256 * (p6 + 256 * p7)) := ⟨_, rfl⟩
  obtain ⟨Y3, h3⟩ : ∃ Y, Y = p3 + 256 * Y4 := ⟨_, rfl⟩
  obtain ⟨Y2, h2⟩ : ∃ Y, Y = p2 + 256 * Y3 := ⟨_, rfl⟩
  obtain ⟨Y5, h5⟩ : ∃ Y, Y = p5 + 256 * (p6 + 256 * p7) := ⟨_, rfl⟩
  rw [← h4, ← h3, ← h2] at e
  have e1 : y / 256 = p1 + 256 * Y2 := by omega
  have e2 : (y + y / 256) / 65536 = Y2 + Y3 := by rw [e1]; omega
  have h6 : Y4 = p4 + 256 * Y5 := by omega
  have hlow : y + y / 256 + (y + y / 256) / 65536 = (p0 + p1 + p2 + p3) + 256 * (p1 + p2 + p3 + p4) + 65536 * (p2 + p3 + 256 * (p3 + p4) + (Y4 + Y5)) + 4294967296 * (Y4 + Y5) := by rw [e2, e1]; omega
  have h45 : Y4 + Y5 = (p4 + p5) + 256 * (p5 + p6) + 65536 * (p6 + 256 * p7 + p7) := by omega
  obtain ⟨T, hT⟩ : ∃ T, T = p6 + 256 * p7 + p7 := ⟨_, rfl⟩
  rw [← hT] at h45
  have e3 : (y + y / 256 + (y + y / 256) / 65536) / 4294967296 = Y4 + Y5 + T := by rw [hlow, h45]; clear hlow e e1 e2 h2 h3 h4 h5 h6; omega
  rw [e3, hlow]
  refine ⟨_, rfl, ?_, ?_⟩
  · rw [h45]; clear hlow e e1 e2 e3 h2 h3 h4 h5 h6 h45; omega
  · rw [h45, hT]; clear hlow e e1 e2 e3 h2 h3 h4 h5 h6 h45; omega

theorem mk85 : mk 85 8 = 6148914691236517205 := by decide
theorem mk51 : mk 51 8 = 3689348814741910323 := by decide
theorem mk15 : mk 15 8 = 1085102592571150095 := by decide

theorem wrap_sum (a b : Nat) (h : a + b < 18446744073709551616) : IntKind.u64.wrap ((a : Int) + (b : Int)) = ((a + b : Nat) : Int) := by
  rw [IntKind.wrap_u64]; omega

theorem i64_in63 (n : Int) (h0 : 0 ≤ n) (h : n < 2 ^ 63) : IntKind.i64.wrap n = n := by
  have h' : n < 9223372036854775808 := h
  rw [IntKind.wrap_i64]; omega

theorem and127 (r : Nat) (h : r < 9223372036854775808) : bits BinOp.and IntKind.i64 (wrap64 (r : Int)) 127 = ((r % 128 : Nat) : Int) := by
  have hw : wrap64 (r : Int) = (r : Int) := by unfold wrap64; omega
  have h0 : (0 : Int) ≤ (r : Int) := by omega
  have h1 : (r : Int) < 9223372036854775808 := by omega
  have hm := bits_mask .i64 63 (by decide) i64_in63 7 (by decide) (r : Int) h0 h1
  rw [hw]
  have hm2 : bits BinOp.and IntKind.i64 (r : Int) 127 = (r : Int) % 128 := hm
  rw [hm2]; omega

/-- What the Go text computes of x, step by step, is the count. -/
theorem ones_steps (x : Nat) (hx : x < 18446744073709551616) : ∃ y1 y2 y3 y4 y5 y6 : Nat,
    IntKind.u64.wrap (bits BinOp.and IntKind.u64 ((x : Int) / 2) 6148914691236517205 + bits BinOp.and IntKind.u64 (x : Int) 6148914691236517205) = (y1 : Int) ∧
    IntKind.u64.wrap (bits BinOp.and IntKind.u64 ((y1 : Int) / 4) 3689348814741910323 + bits BinOp.and IntKind.u64 (y1 : Int) 3689348814741910323) = (y2 : Int) ∧
    bits BinOp.and IntKind.u64 (IntKind.u64.wrap ((y2 : Int) / 16 + (y2 : Int))) 1085102592571150095 = (y3 : Int) ∧
    IntKind.u64.wrap ((y3 : Int) + (y3 : Int) / 256) = (y4 : Int) ∧
    IntKind.u64.wrap ((y4 : Int) + (y4 : Int) / 65536) = (y5 : Int) ∧
    IntKind.u64.wrap ((y5 : Int) + (y5 : Int) / 4294967296) = (y6 : Int) ∧
    bits BinOp.and IntKind.i64 (wrap64 (y6 : Int)) 127 = (cnt x 64 : Int) := by
  obtain ⟨p0, p1, p2, p3, p4, p5, p6, p7, b0, b1, b2, b3, b4, b5, b6, b7, e, ec⟩ := s123_eight x
  have l1 : x / 2 &&& mk 85 8 ≤ mk 85 8 := Nat.and_le_right
  have l2 : x &&& mk 85 8 ≤ mk 85 8 := Nat.and_le_right
  have l3 : s1 8 x / 4 &&& mk 51 8 ≤ mk 51 8 := Nat.and_le_right
  have l4 : s1 8 x &&& mk 51 8 ≤ mk 51 8 := Nat.and_le_right
  rw [mk85] at l1 l2
  rw [mk51] at l3 l4
  have d1 : s1 8 x = (x / 2 &&& 6148914691236517205) + (x &&& 6148914691236517205) := by unfold s1; rw [mk85]
  have d2 : s2 8 (s1 8 x) = (s1 8 x / 4 &&& 3689348814741910323) + (s1 8 x &&& 3689348814741910323) := by unfold s2; rw [mk51]
  have d3 : s3 8 (s2 8 (s1 8 x)) = (s2 8 (s1 8 x) / 16 + s2 8 (s1 8 x)) &&& 1085102592571150095 := by unfold s3; rw [mk15]
  generalize s3 8 (s2 8 (s1 8 x)) = y3 at *
  generalize s2 8 (s1 8 x) = y2 at *
  generalize s1 8 x = y1 at *
  have i1 : ((x : Int) / 2) = ((x / 2 : Nat) : Int) := by omega
  have i2 : ((y1 : Int) / 4) = ((y1 / 4 : Nat) : Int) := by omega
  have i3 : IntKind.u64.wrap ((y2 : Int) / 16 + (y2 : Int)) = ((y2 / 16 + y2 : Nat) : Int) := by rw [IntKind.wrap_u64]; omega
  have n1 := bits_and_u64_nat (x / 2) 6148914691236517205 (by omega) (by decide)
  have n2 := bits_and_u64_nat x 6148914691236517205 hx (by decide)
  have n3 := bits_and_u64_nat (y1 / 4) 3689348814741910323 (by omega) (by decide)
  have n4 := bits_and_u64_nat y1 3689348814741910323 (by omega) (by decide)
  have n5 := bits_and_u64_nat (y2 / 16 + y2) 1085102592571150095 (by omega) (by decide)
  refine ⟨y1, y2, y3, y3 + y3 / 256, y3 + y3 / 256 + (y3 + y3 / 256) / 65536, y3 + y3 / 256 + (y3 + y3 / 256) / 65536 + (y3 + y3 / 256 + (y3 + y3 / 256) / 65536) / 4294967296, ?_, ?_, ?_, ?_, ?_, ?_, ?_⟩
  · rw [i1]; erw [n1, n2]; rw [wrap_sum _ _ (by omega), ← d1]
  · rw [i2]; erw [n3, n4]; rw [wrap_sum _ _ (by omega), ← d2]
  · rw [i3]; erw [n5]; rw [d3]
  all_goals clear d1 d2 d3 n1 n2 n3 n4 n5 i1 i2 i3 l1 l2 l3 l4
  all_goals
    have hr := swar_end p0 p1 p2 p3 p4 p5 p6 p7 y3 b0 b1 b2 b3 b4 b5 b6 b7 e
    rw [← ec] at hr
    clear e ec b0 b1 b2 b3 b4 b5 b6 b7
    obtain ⟨r, hr0, hr1, hr2⟩ := hr
    generalize h4 : y3 / 256 = d4 at *
    generalize h5 : (y3 + d4) / 65536 = d5 at *
    generalize h6 : (y3 + d4 + d5) / 4294967296 = d6 at *
  · rw [show ((y3 : Int) / 256) = ((d4 : Nat) : Int) by omega]; exact wrap_sum _ _ (by omega)
  · rw [show (((y3 + d4 : Nat) : Int) / 65536) = ((d5 : Nat) : Int) by omega]; exact wrap_sum _ _ (by omega)
  · rw [show (((y3 + d4 + d5 : Nat) : Int) / 4294967296) = ((d6 : Nat) : Int) by omega]; exact wrap_sum _ _ (by omega)
  · rw [hr0, and127 r hr1, hr2]

/-! ### Single bits, and the mask of the low bits -/

theorem bit_one (x i : Nat) (hx : x < 18446744073709551616) : (bits BinOp.and IntKind.u64 ((x : Int) / 2 ^ i) 1 == 1) = x.testBit i := by
  have e : ((x : Int) / 2 ^ i) = ((x / 2 ^ i : Nat) : Int) := by simp
  have hl : x / 2 ^ i < 18446744073709551616 := Nat.lt_of_le_of_lt (Nat.div_le_self _ _) hx
  have h := bits_and_u64_nat (x / 2 ^ i) 1 hl (by decide)
  rw [e]
  have h2 : bits BinOp.and IntKind.u64 ((x / 2 ^ i : Nat) : Int) 1 = ((x / 2 ^ i &&& 1 : Nat) : Int) := h
  rw [h2, nat_mask1, Nat.testBit_eq_decide_div_mod_eq]
  by_cases h1 : x / 2 ^ i % 2 = 1
  · simp [h1]
  · have h0 : x / 2 ^ i % 2 = 0 := by omega
    simp [h0]

theorem low_mask (x i : Nat) (hx : x < 18446744073709551616) (hi : i ≤ 64) :
    bits BinOp.and IntKind.u64 (x : Int) (IntKind.u64.wrap (IntKind.u64.wrap (2 ^ i) - 1)) = ((x % 2 ^ i : Nat) : Int) := by
  have key : IntKind.u64.wrap (IntKind.u64.wrap (2 ^ i) - 1) = ((2 ^ i - 1 : Nat) : Int) := by
    have hp : 2 ^ i ≤ 9223372036854775808 ∨ 2 ^ i = 18446744073709551616 := by
      by_cases h : i = 64
      · right; rw [h]
      · left; exact Nat.pow_le_pow_right (n := 2) (j := 63) (by decide) (by omega)
    have h1 : 1 ≤ 2 ^ i := Nat.one_le_two_pow
    have e : ((2 : Int) ^ i) = ((2 ^ i : Nat) : Int) := by simp
    rw [e, IntKind.wrap_u64, IntKind.wrap_u64]
    generalize 2 ^ i = p at *
    omega
  have hlt : 2 ^ i - 1 < 18446744073709551616 := by
    have hp : 2 ^ i ≤ 2 ^ 64 := Nat.pow_le_pow_right (by decide) hi
    omega
  rw [key, bits_and_u64_nat x _ hx hlt, Nat.and_two_pow_sub_one_eq_mod]

theorem mod_lt_word (x i : Nat) (hx : x < 18446744073709551616) : x % 2 ^ i < 18446744073709551616 := Nat.lt_of_le_of_lt (Nat.mod_le _ _) hx
end Go.Proofs.YtpkclmfadlkbeaaDoor.Words

namespace Go.Proofs.YtpkclmfadlkbeaaDoor.Words
open Go Go.RowKit

/-- How many of the numbers below n have the property. -/
def tally (p : Nat → Bool) : Nat → Nat
  | 0 => 0
  | n + 1 => tally p n + (p n).toNat

theorem tally_succ (p : Nat → Bool) (n : Nat) : tally p (n + 1) = tally p n + (p n).toNat := rfl
theorem tally_le (p : Nat → Bool) (n : Nat) : tally p n ≤ n := by
  induction n with
  | zero => simp [tally]
  | succ n ih => simp only [tally]; cases p n <;> simp <;> omega
theorem tally_congr {p q : Nat → Bool} {n : Nat} (h : ∀ i, i < n → p i = q i) : tally p n = tally q n := by
  induction n with
  | zero => rfl
  | succ n ih => rw [tally, tally, ih fun i hi => h i (by omega), h n (by omega)]
theorem tally_add (p : Nat → Bool) (a b : Nat) : tally p (a + b) = tally p a + tally (fun i => p (a + i)) b := by
  induction b with
  | zero => rfl
  | succ b ih => rw [← Nat.add_assoc, tally, tally, ih]; omega
theorem tally_mono (p : Nat → Bool) {a b : Nat} (h : a ≤ b) : tally p a ≤ tally p b := by
  obtain ⟨c, rfl⟩ := Nat.exists_eq_add_of_le h
  rw [tally_add]; omega
theorem tally_not (p : Nat → Bool) (n : Nat) : tally p n + tally (fun i => !p i) n = n := by
  induction n with
  | zero => rfl
  | succ n ih => rw [tally, tally]; cases p n <;> simp <;> omega
theorem cnt_tally (x k : Nat) : cnt x k = tally x.testBit k := by
  induction k with
  | zero => rfl
  | succ k ih => rw [cnt, tally, ih]

/-- Bit i of the vector. -/
def bit (ws : List Nat) (i : Nat) : Bool := (ws.getD (i / 64) 0).testBit (i % 64)

theorem bit_word (ws : List Nat) (j k : Nat) (hk : k < 64) : bit ws (64 * j + k) = (ws.getD j 0).testBit k := by
  unfold bit
  rw [show (64 * j + k) / 64 = j by omega, show (64 * j + k) % 64 = k by omega]

theorem tally_word (ws : List Nat) (j m : Nat) (hm : m ≤ 64) : tally (bit ws) (64 * j + m) = tally (bit ws) (64 * j) + cnt (ws.getD j 0) m := by
  rw [tally_add, cnt_tally]
  congr 1
  exact tally_congr fun i hi => bit_word ws j i (by omega)

/-- One word more. -/
theorem tally_step (ws : List Nat) (r j : Nat) : tally (bit ws) (min r (64 * (j + 1))) = tally (bit ws) (min r (64 * j)) + cnt (ws.getD j 0) (min (r - 64 * j) 64) := by
  by_cases h : r ≤ 64 * j
  · rw [show min r (64 * (j + 1)) = r by omega, show min r (64 * j) = r by omega, show min (r - 64 * j) 64 = 0 by omega]; rfl
  · rw [show min r (64 * (j + 1)) = 64 * j + min (r - 64 * j) 64 by omega, show min r (64 * j) = 64 * j by omega]
    exact tally_word ws j _ (by omega)

/-- What makes a vector of n bits valid. -/
structure Valid (n : Nat) (ws : List Nat) : Prop where
  hi : n ≤ 4096
  len : ws.length = (n + 63) / 64
  top : ∀ i, n ≤ i → i < 64 * ws.length → bit ws i = false

theorem andNot_mask (x m : Nat) (hx : x < 18446744073709551616) (hm : m ≤ 64) : bits .andNot .u64 (x : Int) ((2 ^ m - 1 : Nat) : Int) = ((x / 2 ^ m * 2 ^ m : Nat) : Int) := by
  have hp : 2 ^ m ≤ 2 ^ 64 := Nat.pow_le_pow_right (by decide) hm
  have h1 : 1 ≤ 2 ^ m := Nat.one_le_two_pow
  rw [u64_andNot_nat x _ hx (by omega)]
  congr 1
  apply Nat.eq_of_testBit_eq
  intro i
  rw [Nat.testBit_and, Nat.testBit_mul_two_pow, Nat.testBit_div_two_pow, show 18446744073709551615 - (2 ^ m - 1) = 2 ^ 64 - (2 ^ m - 1 + 1) by omega, Nat.testBit_two_pow_sub_succ (by omega), Nat.testBit_two_pow_sub_one]
  by_cases h : i < 64
  · by_cases h2 : m ≤ i
    · simp [h, h2, show ¬ i < m by omega]
    · simp [h2, show i < m by omega]
  · have hb : x.testBit i = false := Nat.testBit_lt_two_pow (Nat.lt_of_lt_of_le (show x < 2 ^ 64 from hx) (Nat.pow_le_pow_right (by decide) (by omega)))
    by_cases h2 : m ≤ i
    · simp [h, hb, h2]
    · simp [h2, hb]

theorem mask_lt (m : Nat) (hm : m ≤ 64) : 2 ^ m - 1 < 18446744073709551616 := by
  have hp : 2 ^ m ≤ 2 ^ 64 := Nat.pow_le_pow_right (by decide) hm
  omega

/-- Nothing beyond m, bit by bit. -/
theorem high_zero (x m : Nat) (hx : x < 18446744073709551616) : x / 2 ^ m * 2 ^ m = 0 ↔ ∀ i, m ≤ i → i < 64 → x.testBit i = false := by
  have h1 : 0 < 2 ^ m := Nat.two_pow_pos m
  constructor
  · intro h i hi _
    have : x / 2 ^ m = 0 := by
      rcases Nat.mul_eq_zero.1 h with h | h
      · exact h
      · omega
    have e : (x / 2 ^ m).testBit (i - m) = x.testBit i := by rw [Nat.testBit_div_two_pow]; congr 1; omega
    rw [← e, this]; simp
  · intro h
    have : x / 2 ^ m = 0 := by
      apply Nat.eq_of_testBit_eq
      intro i
      rw [Nat.testBit_div_two_pow, Nat.zero_testBit]
      by_cases h2 : i + m < 64
      · exact h _ (by omega) h2
      · exact Nat.testBit_lt_two_pow (Nat.lt_of_lt_of_le (show x < 2 ^ 64 from hx) (Nat.pow_le_pow_right (by decide) (by omega)))
    rw [this]; simp

/-- The test of the last word. -/
theorem valid_last (n : Nat) (ws : List Nat) (j x : Nat) (hn : n ≤ 4096) (hl : ws.length = (n + 63) / 64) (hj : ws.length = j + 1) (hx : ws[j]? = some x) (hlt : x < 18446744073709551616) :
    Valid n ws ↔ x / 2 ^ min (n - 64 * j) 64 * 2 ^ min (n - 64 * j) 64 = 0 := by
  have hg : ws.getD j 0 = x := by simp [List.getD, hx]
  rw [high_zero x _ hlt]
  constructor
  · intro h i hi hi2
    have := h.top (64 * j + i) (by omega) (by omega)
    rwa [bit_word ws j i hi2, hg] at this
  · intro h
    refine ⟨hn, hl, fun i h1 h2 => ?_⟩
    have e : i = 64 * j + (i - 64 * j) := by omega
    rw [e, bit_word ws j _ (by omega), hg]
    exact h _ (by omega) (by omega)

theorem valid_nil : Valid 0 [] := ⟨by omega, rfl, fun i _ h => by simp at h⟩

/-- The mask of a word's bits below m. -/
theorem mask_int (m : Nat) (h : m ≤ 64) : IntKind.u64.wrap (IntKind.u64.wrap (2 ^ m) - 1) = ((2 ^ m - 1 : Nat) : Int) := by
  have e : ((2 : Int) ^ m) = ((2 ^ m : Nat) : Int) := by simp
  rw [e, IntKind.wrap_u64, IntKind.wrap_u64]
  have h1 : 1 ≤ 2 ^ m := Nat.one_le_two_pow
  have hp : 2 ^ m ≤ 9223372036854775808 ∨ 2 ^ m = 18446744073709551616 := by
    by_cases h : m = 64
    · right; rw [h]
    · left; exact Nat.pow_le_pow_right (n := 2) (j := 63) (by decide) (by omega)
  generalize 2 ^ m = p at *
  omega

theorem and_mask_int (x m : Nat) (hx : x < 18446744073709551616) (hm : m ≤ 64) : bits BinOp.and IntKind.u64 (x : Int) ((2 ^ m - 1 : Nat) : Int) = ((x % 2 ^ m : Nat) : Int) := by
  rw [bits_and_u64_nat x _ hx (mask_lt m hm), Nat.and_two_pow_sub_one_eq_mod]
end Go.Proofs.YtpkclmfadlkbeaaDoor.Words

namespace Go.Proofs.YtpkclmfadlkbeaaDoor
open Go.RowKit

theorem cell_lt {w : World} {a : Addr} {v : Value} (h : w.cell? a = some v) : a.block < w.heap.size := by
  rcases Nat.lt_or_ge a.block w.heap.size with h1 | h1
  · exact h1
  · unfold World.cell? at h
    rw [Array.getElem?_eq_none h1] at h
    simp at h

/-- The slice with the address A holds the values xs, one a cell, in a block below B. -/
def Lies (w : World) (B : Nat) (A : Option Addr) (xs : List Value) : Prop :=
  xs ≠ [] → ∃ b o, A = some ⟨b, o, none⟩ ∧ b < B ∧ ∀ j v, xs[j]? = some v → w.cell? ⟨b, o + j, none⟩ = some v

theorem Lies.nil {w : World} {B : Nat} {A : Option Addr} : Lies w B A [] := fun h => absurd rfl h

theorem Lies.keep {w w' : World} {B : Nat} {A : Option Addr} {xs : List Value} (h : Lies w B A xs) (hk : ∀ p : Addr, p.block < B → w'.cell? p = w.cell? p) : Lies w' B A xs := fun hne => by
  obtain ⟨b, o, e, hb, hc⟩ := h hne
  exact ⟨b, o, e, hb, fun j v hv => (hk _ hb).trans (hc j v hv)⟩

theorem Lies.wide {w : World} {B B' : Nat} {A : Option Addr} {xs : List Value} (h : Lies w B A xs) (hB : B ≤ B') : Lies w B' A xs := fun hne => by
  obtain ⟨b, o, e, hb, hc⟩ := h hne
  exact ⟨b, o, e, Nat.lt_of_lt_of_le hb hB, hc⟩

theorem Lies.below {w w' : World} {B : Nat} {A : Option Addr} {xs : List Value} (h : Lies w B A xs) (hb : Below B w w') : Lies w' B A xs := h.keep fun _ hp => hb.cell hp

/-- A slice that lay in the world when a call began lies there behind it. -/
theorem Lies.on {w w' : World} {A : Option Addr} {xs : List Value} (h : Lies w w.heap.size A xs) (hb : Below w.heap.size w w') : Lies w' w'.heap.size A xs := (h.below hb).wide hb.size

theorem Lies.drewN {w : World} {B : Nat} {A : Option Addr} {xs : List Value} (h : Lies w B A xs) (n : Nat) : Lies (w.drewN n) B A xs := h

theorem Lies.alloc {w : World} {A : Option Addr} {xs : List Value} (h : Lies w w.heap.size A xs) (o : Obj) : Lies (w.alloc o) (w.alloc o).heap.size A xs :=
  (h.keep fun p hp => World.cell?_alloc_lt w o p hp).wide (by simp)

/-- An element, by its number. -/
theorem Lies.at_ {α : Type} {f : α → Value} {w : World} {B : Nat} {A : Option Addr} {l : List α} (h : Lies w B A (l.map f)) {k : Nat} (hk : k < l.length) :
    ∃ b o x, A = some ⟨b, o, none⟩ ∧ b < B ∧ l[k]? = some x ∧ w.cell? ⟨b, o + k, none⟩ = some (f x) := by
  obtain ⟨b, o, e, hb, hc⟩ := h (by intro e; rw [List.map_eq_nil_iff] at e; subst e; simp at hk)
  have hx : l[k]? = some l[k] := List.getElem?_eq_getElem hk
  exact ⟨b, o, l[k], e, hb, hx, hc k _ (by rw [List.getElem?_map, hx]; rfl)⟩

/-- A part from the front. -/
theorem Lies.take {w : World} {B : Nat} {A : Option Addr} {xs : List Value} (h : Lies w B A xs) (n : Nat) : Lies w B A (xs.take n) := fun hne => by
  obtain ⟨b, o, e, hb, hc⟩ := h (by intro e; subst e; simp at hne)
  refine ⟨b, o, e, hb, fun j v hv => hc j v ?_⟩
  rw [List.getElem?_take] at hv
  split at hv
  · exact hv
  · cases hv

theorem bdN {B : Nat} {a w : World} (h : Below B a w) (n : Nat) : Below B a (w.drewN n) := ⟨h.os, h.tape, h.output, h.size, h.block⟩

/-- A call that leaves the world alone, in a region that draws: the first of a walk, and a later one. -/
theorem quiet1 {P : Program} {f : FuncId} {args : Array Value} {w : World} {n : Nat} {v : Value} (h : Hid (∀ W : World, Calls P f args W fun e w' => e = .returned v ∧ W = w')) :
    Calls P f args (w.drewN n) fun e w'' => e = .returned v ∧ ∃ m, w'' = w.drewN m := (h.out _).mono fun _ _ ⟨he, hm⟩ => ⟨he, n, hm.symm⟩
theorem quiet2 {P : Program} {f : FuncId} {args : Array Value} {w : World} {a n : Nat} {v : Value} (h : Hid (∀ W : World, Calls P f args W fun e w' => e = .returned v ∧ W = w')) :
    Calls P f args (w.drewN (a + n)) fun e w'' => e = .returned v ∧ ∃ m, w'' = w.drewN (a + m) := (h.out _).mono fun _ _ ⟨he, hm⟩ => ⟨he, n, hm.symm⟩

/-- A call that only draws, in a region that draws: the first of a walk, and a later one. -/
theorem quietD1 {P : Program} {f : FuncId} {args : Array Value} {w : World} {n : Nat} {v : Value} (h : Hid (∀ d, Calls P f args (w.drewN d) fun e w' => e = .returned v ∧ ∃ m, w' = (w.drewN d).drewN m)) :
    Calls P f args (w.drewN n) fun e w'' => e = .returned v ∧ ∃ m, w'' = w.drewN m := (h.out n).mono fun _ _ ⟨he, m, hm⟩ => ⟨he, n + m, by rw [hm, World.drewN_drewN]⟩
theorem quietD2 {P : Program} {f : FuncId} {args : Array Value} {w : World} {a n : Nat} {v : Value} (h : Hid (∀ d, Calls P f args (w.drewN d) fun e w' => e = .returned v ∧ ∃ m, w' = (w.drewN d).drewN m)) :
    Calls P f args (w.drewN (a + n)) fun e w'' => e = .returned v ∧ ∃ m, w'' = w.drewN (a + m) := (h.out (a + n)).mono fun _ _ ⟨he, m, hm⟩ => ⟨he, n + m, by rw [hm, World.drewN_drewN, Nat.add_assoc]⟩

/-- Behind a call that made memory alone, all that was there reads as it did. -/
theorem bcell {B : Nat} {W w1 : World} (hb : Below B W w1) : ∀ b o, b < B → w1.cell? ⟨b, o, none⟩ = W.cell? ⟨b, o, none⟩ := fun b o h => hb.cell (p := ⟨b, o, none⟩) h

/-- 'append(out, u)', one cell an element, out nil or the call's own. -/
theorem append_one {P : Program} (w : World) {ops : Array Oper} {rest : List Oper} {o : Oper} {a : Act} {Q : Exit → Act → World → Prop} (hgd : o.guard = none) (s x : Operand) (t : TypeId)
    (ho : o.op = .call { callee := .builtin .append, args := #[s, x], argTypes := #[t, t] }) (base : Nat) (e : TypeId) (z : Value) (bytes : Nat) (ht : P.underlying t = some (.slice e))
    (hinfo : (P.info? e).map (fun i => (i.zero, i.size, i.bytes)) = some (some z, 1, bytes)) (hz : z.cells.size = 1) (v : Value) (n : Nat) (xs : List Value) (hs : a.eval s = v) (hown : w.ownsRow base e 1 v n xs)
    (g c : Nat) (u : Value) (hx : a.eval x = .slice (some ⟨g, 0, none⟩) 1 c) (hu : w.cell? ⟨g, 0, none⟩ = some u) (h1 : u.oneCell' = true) (h63 : n + 1 ≤ maxLen) (hbytes : (n + 1) * bytes ≤ 140737488355328) (hbase : base ≤ w.heap.size)
    (h : ∀ v' w', w'.ownsRow base e 1 v' (n + 1) (xs ++ [u]) → w.grownBy w' v.ownBlock → wpList P ops Q rest (a.put o.dst v') w') : wpList P ops Q (o :: rest) a w := by
  obtain ⟨i, hi, hz0, hz1, hz2⟩ := info_parts hinfo
  refine wpList_append_own w hgd s x t ho base e i z 1 bytes ht hi hz0 hz1 hz2 hz (by decide) v n xs hs hown ⟨g, 0, none⟩ 1 c [u] hx rfl ?_ ?_ h63 hbytes hbase fun v' w' h2 h3 _ => h v' w' h2 h3
  · intro j u' hj
    match j, hj with
    | 0, hj =>
      obtain rfl : u = u' := by simpa using hj
      exact hu
  · intro u' hu'
    obtain rfl : u' = u := by simpa using hu'
    exact h1

/-- 'append(out, xs...)', one cell an element, out nil or the call's own, xs nil or in memory. -/
theorem append_from {P : Program} (w : World) {ops : Array Oper} {rest : List Oper} {o : Oper} {a : Act} {Q : Exit → Act → World → Prop} (hgd : o.guard = none) (s x : Operand) (t : TypeId)
    (ho : o.op = .call { callee := .builtin .append, args := #[s, x], argTypes := #[t, t] }) (base : Nat) (e : TypeId) (z : Value) (bytes : Nat) (ht : P.underlying t = some (.slice e))
    (hinfo : (P.info? e).map (fun i => (i.zero, i.size, i.bytes)) = some (some z, 1, bytes)) (hz : z.cells.size = 1) (v : Value) (n : Nat) (xs : List Value) (hs : a.eval s = v) (hown : w.ownsRow base e 1 v n xs)
    (A : Option Addr) (m c : Nat) (news : List Value) (hx : a.eval x = .slice A m c) (hm : news.length = m) (hnone : A = none → c = 0) (hl : Lies w w.heap.size A news) (h1 : ∀ u ∈ news, u.oneCell' = true) (h63 : n + m ≤ maxLen) (hbytes : (n + m) * bytes ≤ 140737488355328) (hbase : base ≤ w.heap.size)
    (h : ∀ v' w', w'.ownsRow base e 1 v' (n + m) (xs ++ news) → w.grownBy w' v.ownBlock → wpList P ops Q rest (a.put o.dst v') w') : wpList P ops Q (o :: rest) a w := by
  obtain ⟨i, hi, hz0, hz1, hz2⟩ := info_parts hinfo
  cases A with
  | none =>
    have hc := hnone rfl
    have hn : news = [] := by
      by_cases hne : news = []
      · exact hne
      · obtain ⟨b, o', e', _⟩ := hl hne
        cases e'
    subst hn
    have hm0 : m = 0 := hm.symm
    subst hm0 hc
    exact wpList_append_own_none hgd s x t ho base e i 1 ht hi v n xs hs hown hx (h v w (by simpa using hown) ⟨rfl, rfl, rfl, Nat.le_refl _, fun _ _ _ => rfl⟩)
  | some ad =>
    refine wpList_append_own w hgd s x t ho base e i z 1 bytes ht hi hz0 hz1 hz2 hz (by decide) v n xs hs hown ad m c news hx (by omega) ?_ h1 h63 hbytes hbase fun v' w' h2 h3 _ => h v' w' h2 h3
    intro j u hj
    obtain ⟨b, o', e', _, hc⟩ := hl (by intro e'; subst e'; simp at hj)
    obtain rfl := Option.some.inj e'
    rw [Addr.add_lit]
    exact hc j u hj

theorem bools_one (l : List Bool) : ∀ u ∈ l.map Value.bool, u.oneCell' = true := by
  intro u hu
  obtain ⟨_, _, rfl⟩ := List.mem_map.1 hu
  rfl

/-- The address, if there is one, leads to a block from B on. -/
def New (B : Nat) (A : Option Addr) : Prop := ∀ ad, A = some ad → B ≤ ad.block

theorem New.mono {B B' : Nat} {A : Option Addr} (h : New B A) (hB : B' ≤ B) : New B' A := fun ad e => Nat.le_trans hB (h ad e)

/-- A store into another block. -/
theorem Lies.setCell {w : World} {B : Nat} {A : Option Addr} {xs : List Value} (h : Lies w B A xs) {p : Addr} {B' : Nat} (hn : New B' A) (hp : p.block < B') (u : Value) : Lies (w.setCell p u) B A xs := fun hne => by
  obtain ⟨b, o, e, hb, hc⟩ := h hne
  have hb' := hn _ e
  refine ⟨b, o, e, hb, fun j v hv => ?_⟩
  rw [World.cell?_setCell_other w p ⟨b, o + j, none⟩ u (fun e' => by subst e'; simp at hp hb'; omega)]
  exact hc j v hv

/-- What the call owns, as a slice that lies in memory. -/
theorem own_slice {w : World} {base : Nat} {e : TypeId} {v : Value} {n : Nat} {xs : List Value} (h : w.ownsRow base e 1 v n xs) : ∃ A c, v = .slice A n c ∧ n ≤ c ∧ xs.length = n ∧ Lies w w.heap.size A xs ∧ (A = none → c = 0) ∧ New base A := by
  have hlen : xs.length = n := by have := h.1; omega
  rcases h.2 with ⟨rfl, rfl⟩ | ⟨g, cap, cur, rfl, hg, hh, hn, _, hs, hx⟩
  · exact ⟨none, 0, rfl, Nat.le_refl _, hlen, by rw [List.eq_nil_of_length_eq_zero hlen]; exact Lies.nil, fun _ => rfl, (fun _ e => by cases e)⟩
  · refine ⟨_, cap, rfl, hn, hlen, fun _ => ⟨g, 0, rfl, ?_, fun j v hv => ?_⟩, (fun e => by cases e), fun ad e => by obtain rfl := Option.some.inj e; exact hg⟩
    · rcases Nat.lt_or_ge g w.heap.size with h1 | h1
      · exact h1
      · rw [Array.getElem?_eq_none h1] at hh; cases hh
    · have := h.cells (g := g) rfl j v hv
      rwa [Addr.add_lit, Nat.zero_add, ← Nat.zero_add j] at this

/-- What a call that returns a new slice of one-cell values leaves. -/
def GivesSlice (w : World) (xs : List Value) (e : Ending) (w' : World) : Prop := ∃ A c, e = .returned (.slice A xs.length c) ∧ xs.length ≤ c ∧ Lies w' w'.heap.size A xs ∧ (A = none → c = 0) ∧ New w.heap.size A ∧ Below w.heap.size w w'

/-- New memory, one step behind the other. -/
theorem bnew (w : World) (o : Obj) : Below w.heap.size w (w.alloc o) := (Below.refl _ _).alloc (Nat.le_refl _) _
theorem chain {w a b : World} (h : Below w.heap.size w a) (k : Below a.heap.size a b) : Below w.heap.size w b := h.trans (k.mono h.size)

/-- A block known whole. -/
def Blk (w : World) (g : Nat) (t : TypeId) (xs : List Value) : Prop := w.heap[g]? = some (.cells xs.toArray t (0, 0))

theorem Blk.lt {w : World} {g : Nat} {t : TypeId} {xs : List Value} (h : Blk w g t xs) : g < w.heap.size := by
  rcases Nat.lt_or_ge g w.heap.size with h1 | h1
  · exact h1
  · unfold Blk at h; rw [Array.getElem?_eq_none h1] at h; cases h
theorem Blk.cell {w : World} {g : Nat} {t : TypeId} {xs : List Value} (h : Blk w g t xs) (i : Nat) : w.cell? ⟨g, i, none⟩ = xs[i]? := by
  unfold Blk at h
  simp [World.cell?, h]
theorem Blk.frozen {w : World} {g : Nat} {t : TypeId} {xs : List Value} (h : Blk w g t xs) (i : Nat) : w.frozen? ⟨g, i, none⟩ = false := by
  unfold Blk at h
  simp [World.frozen?, h]
theorem Blk.new (w : World) (t : TypeId) (xs : List Value) : Blk (w.alloc (.cells xs.toArray t)) w.heap.size t xs := by
  show (w.heap.push _)[w.heap.size]? = _
  simp
theorem Blk.drew {w : World} {g : Nat} {t : TypeId} {xs : List Value} (h : Blk w g t xs) : Blk w.drew g t xs := h
theorem Blk.drewN {w : World} {g : Nat} {t : TypeId} {xs : List Value} (h : Blk w g t xs) (n : Nat) : Blk (w.drewN n) g t xs := h
theorem Blk.alloc {w : World} {g : Nat} {t : TypeId} {xs : List Value} (h : Blk w g t xs) (o : Obj) : Blk (w.alloc o) g t xs := (Below.heap_alloc w o g h.lt).trans h
theorem Blk.put {w : World} {g : Nat} {t : TypeId} {xs : List Value} (h : Blk w g t xs) (i : Nat) (u : Value) : Blk (w.setCell ⟨g, i, none⟩ u) g t (xs.set i u) := by
  unfold Blk at h ⊢
  simp [World.setCell, Array.getElem?_modify, h]
theorem Blk.far {w : World} {g : Nat} {t : TypeId} {xs : List Value} (h : Blk w g t xs) {p : Addr} (hp : g ≠ p.block) (u : Value) : Blk (w.setCell p u) g t xs := (Below.heap_setCell w p u g hp).trans h
theorem Blk.below {w w' : World} {B g : Nat} {t : TypeId} {xs : List Value} (h : Blk w g t xs) (hb : Below B w w') (hg : g < B) : Blk w' g t xs := (hb.block g hg).trans h
/-- A slice over the whole of a block. -/
theorem Blk.lies {w : World} {g : Nat} {t : TypeId} {xs : List Value} (h : Blk w g t xs) : Lies w w.heap.size (some ⟨g, 0, none⟩) xs :=
  fun _ => ⟨g, 0, rfl, h.lt, fun j v hv => by rw [Nat.zero_add, h.cell]; exact hv⟩

/-- The cells that 'make' lays, under one name. -/
def zeros (z : Value) (n : Nat) : Array Value := (List.replicate n z).toArray

theorem madeCells_one (z : Value) (hz : z.cells = #[z]) (n : Nat) : madeCells z.cells n = zeros z n := by
  unfold zeros madeCells
  rw [hz]
  apply Array.ext
  · simp
  · intro i h1 h2
    simp [Nat.mod_one]

/-- 'make([]T, n)', one cell an element. -/
theorem make_row {P : Program} (t e : TypeId) (z : Value) (bytes : Nat) (ht : P.underlying t = some (.slice e)) (hinfo : (P.info? e).map (fun i => (i.zero, i.size, i.bytes)) = some (some z, 1, bytes)) (hz : z.cells = #[z])
    (n : Nat) (hb : bytes * n ≤ 281474976710656) (h63 : n ≤ 9223372036854775807) (w : World) :
    (Instr.makeSlice t (.int .i64 (n : Int)) (.int .i64 (n : Int))).run P w = .ok (.slice (some ⟨w.heap.size, 0, none⟩) n n) (w.alloc (.cells (zeros z n) e)) := by
  obtain ⟨i, hi, hz0, hz1, hz2⟩ := info_parts hinfo
  have hb' : (i.bytes : Int) * (n : Int) ≤ 281474976710656 := by
    have h : ((bytes * n : Nat) : Int) ≤ 281474976710656 := by omega
    rw [Int.natCast_mul] at h
    rw [hz2]; exact h
  have hr := run_make (P := P) w t e i z ht hi hz0 .i64 .i64 n n (by omega) (Int.le_refl _) hb' (by omega)
  rw [hr, hz1, Int.toNat_natCast, Nat.mul_one, madeCells_one z hz]

theorem zeros_blk (w : World) (z : Value) (n : Nat) (e : TypeId) : Blk (w.alloc (.cells (zeros z n) e)) w.heap.size e (List.replicate n z) := Blk.new w e (List.replicate n z)

theorem bfrozen {B : Nat} {W w1 : World} (hb : Below B W w1) : ∀ b o, b < B → w1.frozen? ⟨b, o, none⟩ = W.frozen? ⟨b, o, none⟩ := fun b o h => hb.frozen (p := ⟨b, o, none⟩) h

/-- A slice of words: numbers below 2^64. -/
def Words64 (w : World) (B : Nat) (A : Option Addr) (ws : List Nat) : Prop := Lies w B A (ws.map fun x : Nat => .int .u64 (x : Int)) ∧ ∀ x ∈ ws, x < 18446744073709551616

theorem Words64.at_ {w : World} {B : Nat} {A : Option Addr} {ws : List Nat} (h : Words64 w B A ws) {k : Nat} (hk : k < ws.length) :
    ∃ b o x, A = some ⟨b, o, none⟩ ∧ b < B ∧ ws[k]? = some x ∧ x < 18446744073709551616 ∧ w.cell? ⟨b, o + k, none⟩ = some (.int .u64 (x : Int)) := by
  obtain ⟨b, o, x, e, hb, hx, hc⟩ := h.1.at_ hk
  exact ⟨b, o, x, e, hb, hx, h.2 x (List.mem_of_getElem? hx), hc⟩
theorem Words64.on {w w' : World} {A : Option Addr} {ws : List Nat} (h : Words64 w w.heap.size A ws) (hb : Below w.heap.size w w') : Words64 w' w'.heap.size A ws := ⟨h.1.on hb, h.2⟩
theorem Words64.alloc {w : World} {A : Option Addr} {ws : List Nat} (h : Words64 w w.heap.size A ws) (o : Obj) : Words64 (w.alloc o) (w.alloc o).heap.size A ws := ⟨h.1.alloc o, h.2⟩
theorem Words64.drewN {w : World} {B : Nat} {A : Option Addr} {ws : List Nat} (h : Words64 w B A ws) (n : Nat) : Words64 (w.drewN n) B A ws := h
theorem Words64.below {w w' : World} {B : Nat} {A : Option Addr} {ws : List Nat} (h : Words64 w B A ws) (hb : Below B w w') : Words64 w' B A ws := ⟨h.1.below hb, h.2⟩
theorem Lies.drew {w : World} {B : Nat} {A : Option Addr} {xs : List Value} (h : Lies w B A xs) : Lies w.drew B A xs := h
theorem Words64.drew {w : World} {B : Nat} {A : Option Addr} {ws : List Nat} (h : Words64 w B A ws) : Words64 w.drew B A ws := h
theorem Words64.setCell {w : World} {B : Nat} {A : Option Addr} {ws : List Nat} (h : Words64 w B A ws) {p : Addr} {B' : Nat} (hn : New B' A) (hp : p.block < B') (u : Value) : Words64 (w.setCell p u) B A ws := ⟨h.1.setCell hn hp u, h.2⟩
end Go.Proofs.YtpkclmfadlkbeaaDoor

namespace Go.Proofs.YtpkclmfadlkbeaaDoor.Words
open Go Go.RowKit

/-- The number whose bits below k are p's. -/
def packTo (p : Nat → Bool) : Nat → Nat
  | 0 => 0
  | k + 1 => packTo p k + (p k).toNat * 2 ^ k

theorem packTo_lt (p : Nat → Bool) (k : Nat) : packTo p k < 2 ^ k := by
  induction k with
  | zero => simp [packTo]
  | succ k ih => rw [packTo, Nat.pow_succ]; cases p k <;> simp <;> omega

theorem packTo_bit (p : Nat → Bool) (k i : Nat) : (packTo p k).testBit i = (decide (i < k) && p i) := by
  induction k with
  | zero => simp [packTo]
  | succ k ih =>
    have hl := packTo_lt p k
    have e : packTo p (k + 1) = 2 ^ k * (p k).toNat + packTo p k := by rw [packTo, Nat.mul_comm]; omega
    rw [e, Nat.testBit_two_pow_mul_add _ hl]
    by_cases h : i < k
    · rw [if_pos h, ih]; simp [h, show i < k + 1 by omega]
    · rw [if_neg h]
      by_cases h2 : i = k
      · subst h2; cases hp : p i <;> simp
      · rw [show decide (i < k + 1) = false by simp; omega]
        cases p k
        · simp
        · rw [Nat.testBit_lt_two_pow (show (true : Bool).toNat < 2 ^ (i - k) from Nat.lt_of_lt_of_le (show 1 < 2 ^ 1 by decide) (Nat.pow_le_pow_right (by decide) (by omega)))]; rfl

theorem pack_word (p : Nat → Bool) (k : Nat) (h : k ≤ 64) : packTo p k < 18446744073709551616 :=
  Nat.lt_of_lt_of_le (packTo_lt p k) (Nat.pow_le_pow_right (n := 2) (j := 64) (by decide) h)

/-- The words, m of them, after i bools are laid. -/
def laid (l : List Bool) (i m : Nat) : List Nat := (List.range m).map fun j => packTo (fun b => l.getD (64 * j + b) false) (min 64 (i - 64 * j))

/-- The words of a list of bools. -/
def rowOf (l : List Bool) : List Nat := laid l l.length ((l.length + 63) / 64)

theorem laid_length (l : List Bool) (i m : Nat) : (laid l i m).length = m := by simp [laid]
theorem laid_get (l : List Bool) (i m j : Nat) (h : j < m) : (laid l i m)[j]? = some (packTo (fun b => l.getD (64 * j + b) false) (min 64 (i - 64 * j))) := by
  unfold laid
  rw [List.getElem?_map, List.getElem?_range h]; rfl
theorem laid_word (l : List Bool) (i m : Nat) : ∀ x ∈ laid l i m, x < 18446744073709551616 := by
  intro x hx
  obtain ⟨j, _, rfl⟩ := List.mem_map.1 hx
  exact pack_word _ _ (by omega)
theorem laid_zero (l : List Bool) (m : Nat) : laid l 0 m = List.replicate m 0 := by
  unfold laid
  apply List.ext_getElem?
  intro j
  by_cases h : j < m
  · rw [List.getElem?_map, List.getElem?_range h, List.getElem?_replicate, if_pos h]; simp [packTo]
  · rw [List.getElem?_eq_none (by simpa using h), List.getElem?_eq_none (by simpa using h)]

/-- One bool more. -/
theorem laid_step (l : List Bool) (i m : Nat) (h : i / 64 < m) :
    laid l (i + 1) m = (laid l i m).set (i / 64) (packTo (fun b => l.getD (64 * (i / 64) + b) false) (i % 64) + (l.getD i false).toNat * 2 ^ (i % 64)) := by
  apply List.ext_getElem?
  intro j
  by_cases hj : j < m
  · rw [laid_get _ _ _ _ hj]
    by_cases e : i / 64 = j
    · subst e
      rw [List.getElem?_set_self (by rw [laid_length]; exact h)]
      rw [show min 64 (i + 1 - 64 * (i / 64)) = i % 64 + 1 by omega, packTo, show 64 * (i / 64) + i % 64 = i by omega]
    · rw [List.getElem?_set_ne e, laid_get _ _ _ _ hj, show min 64 (i + 1 - 64 * j) = min 64 (i - 64 * j) by omega]
  · rw [List.getElem?_eq_none (by rw [laid_length]; omega), List.getElem?_eq_none (by rw [List.length_set, laid_length]; omega)]

theorem laid_at (l : List Bool) (i m : Nat) (h : i / 64 < m) : (laid l i m)[i / 64]? = some (packTo (fun b => l.getD (64 * (i / 64) + b) false) (i % 64)) := by
  rw [laid_get _ _ _ _ h, show min 64 (i - 64 * (i / 64)) = i % 64 by omega]

/-- A false bool lays nothing. -/
theorem laid_skip (l : List Bool) (i m : Nat) (h : i / 64 < m) (hb : l.getD i false = false) : laid l (i + 1) m = laid l i m := by
  rw [laid_step l i m h, hb]
  apply List.ext_getElem?
  intro j
  by_cases e : i / 64 = j
  · subst e
    rw [List.getElem?_set_self (by rw [laid_length]; exact h), laid_at l i m h]; simp
  · rw [List.getElem?_set_ne e]

/-- One word more, still empty. -/
theorem laid_more (l : List Bool) (i m : Nat) (h : i ≤ 64 * m) : laid l i (m + 1) = laid l i m ++ [0] := by
  unfold laid
  rw [List.range_succ, List.map_append, List.map_cons, List.map_nil, show min 64 (i - 64 * m) = 0 by omega]; rfl

theorem rowOf_length (l : List Bool) : (rowOf l).length = (l.length + 63) / 64 := laid_length _ _ _
theorem rowOf_word (l : List Bool) : ∀ x ∈ rowOf l, x < 18446744073709551616 := laid_word _ _ _

theorem rowOf_bit (l : List Bool) (i : Nat) (h : i < 64 * ((l.length + 63) / 64)) : bit (rowOf l) i = l.getD i false := by
  have hd : (rowOf l).getD (i / 64) 0 = packTo (fun b => l.getD (64 * (i / 64) + b) false) (min 64 (l.length - 64 * (i / 64))) := by
    unfold rowOf
    rw [List.getD, laid_get _ _ _ _ (by omega)]; rfl
  unfold bit
  rw [hd, packTo_bit, show 64 * (i / 64) + i % 64 = i by omega]
  by_cases hl : i < l.length
  · rw [show decide (i % 64 < min 64 (l.length - 64 * (i / 64))) = true by simp; omega]; rfl
  · rw [List.getD, List.getElem?_eq_none (by omega)]; simp

theorem rowOf_valid (l : List Bool) (h : l.length ≤ 4096) : Valid l.length (rowOf l) :=
  ⟨h, rowOf_length l, fun i h1 h2 => by
    rw [rowOf_length] at h2
    rw [rowOf_bit l i h2, List.getD, List.getElem?_eq_none h1]; rfl⟩

/-- How many of the first k bools are true, of a list and of its vector. -/
theorem tally_row (l : List Bool) (k : Nat) (h : k ≤ l.length) : tally (bit (rowOf l)) k = tally (fun i => l.getD i false) k :=
  tally_congr fun i hi => rowOf_bit l i (by omega)

theorem tally_join (a b : List Bool) (k : Nat) (h : k ≤ a.length + b.length) : tally (bit (rowOf a)) (min k a.length) + tally (bit (rowOf b)) (k - a.length) = tally (bit (rowOf (a ++ b))) k := by
  rw [tally_row a _ (by omega), tally_row b _ (by omega), tally_row (a ++ b) k (by simpa using h)]
  have hl : ∀ i, i < a.length → (a ++ b).getD i false = a.getD i false := fun i hi => by simp [List.getD, List.getElem?_append_left hi]
  by_cases hk : k ≤ a.length
  · rw [show min k a.length = k by omega, show k - a.length = 0 by omega]
    exact tally_congr fun i hi => (hl i (by omega)).symm
  · obtain ⟨d, rfl⟩ := Nat.exists_eq_add_of_le (show a.length ≤ k by omega)
    rw [show min (a.length + d) a.length = a.length by omega, show a.length + d - a.length = d by omega, tally_add]
    congr 1
    · exact tally_congr fun i hi => (hl i hi).symm
    · exact tally_congr fun i hi => by simp [List.getD, List.getElem?_append_right (show a.length ≤ a.length + i by omega)]

theorem or_bit_int (x k : Nat) (hk : k < 64) (hx : x < 2 ^ k) : bits BinOp.or IntKind.u64 (x : Int) (IntKind.u64.wrap (2 ^ k)) = ((x + 2 ^ k : Nat) : Int) := by
  have hp : 2 ^ k ≤ 9223372036854775808 := Nat.pow_le_pow_right (n := 2) (j := 63) (by decide) (by omega)
  have e : ((2 : Int) ^ k) = ((2 ^ k : Nat) : Int) := by simp
  have e2 : IntKind.u64.wrap ((2 ^ k : Nat) : Int) = ((2 ^ k : Nat) : Int) := by
    rw [IntKind.wrap_u64]
    generalize 2 ^ k = p at *
    omega
  rw [e, e2, bits_or_u64_nat x _ (by omega) (by omega)]
  congr 1
  have := Nat.two_pow_add_eq_or_of_lt hx 1
  rw [Nat.mul_one] at this
  rw [Nat.or_comm, ← this]; omega

theorem add_bit_int (x k : Nat) (hk : k < 64) (hx : x < 2 ^ k) : IntKind.u64.wrap ((x : Int) + IntKind.u64.wrap (2 ^ k)) = ((x + 2 ^ k : Nat) : Int) := by
  have hp : 2 ^ k ≤ 9223372036854775808 := Nat.pow_le_pow_right (n := 2) (j := 63) (by decide) (by omega)
  have e : ((2 : Int) ^ k) = ((2 ^ k : Nat) : Int) := by simp
  rw [e, IntKind.wrap_u64, IntKind.wrap_u64]
  generalize 2 ^ k = p at *
  omega
end Go.Proofs.YtpkclmfadlkbeaaDoor.Words

namespace Go.Proofs.YtpkclmfadlkbeaaDoor
open Go.RowKit

/-- A row of a call's own, where its block stays. -/
theorem own_keep {w w' : World} {base : Nat} {e : TypeId} {v : Value} {n : Nat} {xs : List Value} (h : w.ownsRow base e 1 v n xs) (hk : ∀ q, v.ownBlock = some q → w'.heap[q]? = w.heap[q]?) : w'.ownsRow base e 1 v n xs := by
  refine ⟨h.1, ?_⟩
  rcases h.2 with ⟨rfl, hn⟩ | ⟨g, cap, cur, rfl, hb, hh, hr⟩
  · exact .inl ⟨rfl, hn⟩
  · exact .inr ⟨g, cap, cur, rfl, hb, (hk g rfl).trans hh, hr⟩
/-- Its block, and what kind of block it is. -/
theorem own_kind {w : World} {base : Nat} {e : TypeId} {v : Value} {n : Nat} {xs : List Value} (h : w.ownsRow base e 1 v n xs) {q : Nat} (hq : v.ownBlock = some q) : ∃ cur, w.heap[q]? = some (.cells cur e (0, 0)) := by
  rcases h.2 with ⟨rfl, hn⟩ | ⟨g, cap, cur, rfl, hb, hh, hr⟩
  · cases hq
  · obtain rfl := Option.some.inj hq
    exact ⟨cur, hh⟩
theorem own_lt {w : World} {base : Nat} {e : TypeId} {v : Value} {n : Nat} {xs : List Value} (h : w.ownsRow base e 1 v n xs) {q : Nat} (hq : v.ownBlock = some q) : q < w.heap.size := by
  obtain ⟨cur, hh⟩ := own_kind h hq
  rcases Nat.lt_or_ge q w.heap.size with h1 | h1
  · exact h1
  · rw [Array.getElem?_eq_none h1] at hh; cases hh
theorem own_below {w w' : World} {base B : Nat} {e : TypeId} {v : Value} {n : Nat} {xs : List Value} (h : w.ownsRow base e 1 v n xs) (hb : Below B w w') (hB : w.heap.size ≤ B) : w'.ownsRow base e 1 v n xs :=
  own_keep h fun q hq => hb.block q (Nat.lt_of_lt_of_le (own_lt h hq) hB)
theorem own_base {w : World} {base B : Nat} {e : TypeId} {v : Value} {n : Nat} {xs : List Value} (h : w.ownsRow base e 1 v n xs) (hB : B ≤ base) : w.ownsRow B e 1 v n xs := by
  refine ⟨h.1, ?_⟩
  rcases h.2 with ⟨rfl, hn⟩ | ⟨g, cap, cur, rfl, hb, hr⟩
  · exact .inl ⟨rfl, hn⟩
  · exact .inr ⟨g, cap, cur, rfl, by omega, hr⟩
/-- Beside a row of another kind that grows. -/
theorem own_beside {w w' : World} {base B : Nat} {e e2 : TypeId} {v u : Value} {n m : Nat} {xs ys : List Value} (h : w.ownsRow base e 1 v n xs) (k : w.ownsRow B e2 1 u m ys) (hne : e ≠ e2) (hg : w.grownBy w' u.ownBlock) : w'.ownsRow base e 1 v n xs :=
  own_keep h fun q hq => hg.block q (own_lt h hq) fun e' => by
    obtain ⟨c1, h1⟩ := own_kind h hq
    obtain ⟨c2, h2⟩ := own_kind k e'.symm
    rw [h1] at h2
    injection h2 with h2
    injection h2 with _ h3
    exact hne h3
/-- A block that 'make' laid and that was filled. -/
theorem Blk.owns {w : World} {g : Nat} {e : TypeId} {xs : List Value} (h : Blk w g e xs) {base : Nat} (hb : base ≤ g) (hn : xs.length ≤ maxLen) : w.ownsRow base e 1 (.slice (some ⟨g, 0, none⟩) xs.length xs.length) xs.length xs :=
  ⟨by simp, .inr ⟨g, xs.length, xs.toArray, rfl, hb, h, Nat.le_refl _, hn, by simp, by simp⟩⟩

/-- A row of z's, of which the first i are already xs's. -/
def fillR {α : Type} (xs : List α) (z : α) (i : Nat) : List α := xs.take i ++ List.replicate (xs.length - i) z
theorem fillR_zero {α : Type} (xs : List α) (z : α) : fillR xs z 0 = List.replicate xs.length z := by simp [fillR]
theorem fillR_all {α : Type} (xs : List α) (z : α) : fillR xs z xs.length = xs := by simp [fillR]
theorem fillR_step {α : Type} (xs : List α) (z : α) (i : Nat) (x : α) (h : xs[i]? = some x) : (fillR xs z i).set i x = fillR xs z (i + 1) := by
  have hi : i < xs.length := by
    rcases Nat.lt_or_ge i xs.length with h1 | h1
    · exact h1
    · rw [List.getElem?_eq_none h1] at h; cases h
  unfold fillR
  rw [show xs.length - i = xs.length - (i + 1) + 1 by omega, List.replicate_succ, List.take_add_one, h, List.set_append]
  simp [List.length_take, Nat.min_eq_left (Nat.le_of_lt hi)]
theorem fillR_at {α : Type} (xs : List α) (z : α) (i : Nat) (h : i < xs.length) : (fillR xs z i)[i]? = some z := by
  unfold fillR
  rw [List.getElem?_append_right (by simp; omega), List.getElem?_replicate]
  simp [Nat.min_eq_left (Nat.le_of_lt h)]
  omega

/-- A row of the call's own that is not empty has a block. -/
theorem own_at {w : World} {base : Nat} {e : TypeId} {A : Option Addr} {n m c : Nat} {xs : List Value} (h : w.ownsRow base e 1 (.slice A m c) n xs) (hn : 0 < n) : ∃ g, A = some ⟨g, 0, none⟩ ∧ base ≤ g := by
  rcases h.2 with ⟨_, h0⟩ | ⟨g, cap, cur, hv, hb, _⟩
  · omega
  · injection hv with h1
    exact ⟨g, h1, hb⟩
/-- A store into it. -/
theorem own_put {w : World} {base : Nat} {e : TypeId} {g n c : Nat} {xs : List Value} (h : w.ownsRow base e 1 (.slice (some ⟨g, 0, none⟩) n c) n xs) (i : Nat) (u : Value) : (w.setCell ⟨g, i, none⟩ u).ownsRow base e 1 (.slice (some ⟨g, 0, none⟩) n c) n (xs.set i u) := by
  refine ⟨by rw [List.length_set]; exact h.1, ?_⟩
  rcases h.2 with ⟨hv, _⟩ | ⟨g', cap, cur, hv, hb, hh, hn, hm, hs, hx⟩
  · cases hv
  · injection hv with h1 _ h2
    obtain rfl : g = g' := by injection h1 with h1; injection h1
    subst h2
    have hB : Blk w g e cur.toList := by unfold Blk; rw [Array.toArray_toList]; exact hh
    refine .inr ⟨g, c, (cur.toList.set i u).toArray, rfl, hb, hB.put i u, hn, hm, by simpa using hs, ?_⟩
    rw [← hx]
    simp [List.take_set]
theorem own_cell {w : World} {base : Nat} {e : TypeId} {g n c : Nat} {xs : List Value} (h : w.ownsRow base e 1 (.slice (some ⟨g, 0, none⟩) n c) n xs) {i : Nat} {v : Value} (hv : xs[i]? = some v) : w.cell? ⟨g, i, none⟩ = some v := by
  have := h.cells (g := g) rfl i v hv
  rwa [Addr.add_lit, Nat.zero_add] at this
theorem own_frozen {w : World} {base : Nat} {e : TypeId} {g n c : Nat} {xs : List Value} (h : w.ownsRow base e 1 (.slice (some ⟨g, 0, none⟩) n c) n xs) (i : Nat) : w.frozen? ⟨g, i, none⟩ = false := by
  rcases h.2 with ⟨hv, _⟩ | ⟨g', cap, cur, hv, _, hh, _⟩
  · cases hv
  · injection hv with h1
    obtain rfl : g = g' := by injection h1 with h1; injection h1
    have hB : Blk w g e cur.toList := by unfold Blk; rw [Array.toArray_toList]; exact hh
    exact hB.frozen i
end Go.Proofs.YtpkclmfadlkbeaaDoor

namespace Go.Proofs.YtpkclmfadlkbeaaDoor
open Go.RowKit

/-- Numbers as cells. -/
def natC (l : List Nat) : List Value := l.map fun x : Nat => .int .i64 (x : Int)
theorem natC_length (l : List Nat) : (natC l).length = l.length := by simp [natC]
theorem natC_append (a b : List Nat) : natC (a ++ b) = natC a ++ natC b := by simp [natC]
theorem natC_at (l : List Nat) (i x : Nat) (h : l[i]? = some x) : (natC l)[i]? = some (.int .i64 (x : Int)) := by unfold natC; rw [List.getElem?_map, h]; rfl
theorem natC_one (l : List Nat) : ∀ u ∈ natC l, u.oneCell' = true := by
  intro u hu
  obtain ⟨_, _, rfl⟩ := List.mem_map.1 hu
  rfl
theorem range_natC (i : Nat) : natC (List.range (i + 1)) = natC (List.range i) ++ [.int .i64 (i : Int)] := by rw [List.range_succ, natC_append]; rfl
theorem natC_set (l : List Nat) (i x : Nat) : (natC l).set i (.int .i64 (x : Int)) = natC (l.set i x) := by unfold natC; rw [List.map_set]
theorem natC_replicate (n : Nat) : natC (List.replicate n 0) = List.replicate n (.int .i64 0) := by unfold natC; rw [List.map_replicate]; rfl
theorem natC_map (l : List Nat) : natC l = (l.map fun x : Nat => (x : Int)).map (.int .i64) := by unfold natC; rw [List.map_map]; rfl
theorem natC_nil : natC [] = [] := rfl
theorem natC_snoc (l : List Nat) (x : Nat) : natC (l ++ [x]) = natC l ++ [.int .i64 (x : Int)] := natC_append l [x]
end Go.Proofs.YtpkclmfadlkbeaaDoor

namespace Go.Proofs.YtpkclmfadlkbeaaDoor
open Go.Sort
variable {α : Type}

/-- The n places from a and the n places from b change their values. -/
def swF (f : Nat → α) (a b n : Nat) : Nat → α := fun j => if a ≤ j ∧ j < a + n then f (j - a + b) else if b ≤ j ∧ j < b + n then f (j - b + a) else f j
/-- The values from m on come ahead of the values from a on. -/
def rotF (f : Nat → α) (a m b : Nat) : Nat → α := fun j => if a ≤ j ∧ j < a + (b - m) then f (j + (m - a)) else if a + (b - m) ≤ j ∧ j < b then f (j - (b - m)) else f j
/-- The values from a on, ahead of b. -/
def sgF (f : Nat → α) (a b : Nat) : List α := (List.range' a (b - a)).map f

theorem swF_zero (f : Nat → α) (a b : Nat) : swF f a b 0 = f := by
  funext j
  unfold swF
  rw [if_neg (by omega), if_neg (by omega)]
theorem swF_succ (f : Nat → α) (a b n : Nat) (h : a + (n + 1) ≤ b) : swF f a b (n + 1) = fun j => if j = b + n then swF f a b n (a + n) else if j = a + n then swF f a b n (b + n) else swF f a b n j := by
  funext j
  unfold swF
  have e1 : ¬ (a ≤ a + n ∧ a + n < a + n) := by omega
  have e2 : ¬ (b ≤ a + n ∧ a + n < b + n) := by omega
  have e3 : ¬ (a ≤ b + n ∧ b + n < a + n) := by omega
  have e4 : ¬ (b ≤ b + n ∧ b + n < b + n) := by omega
  rw [if_neg e1, if_neg e2, if_neg e3, if_neg e4]
  by_cases h1 : j = b + n
  · rw [if_neg (by omega), if_pos (by omega), if_pos h1]
    congr 1; omega
  · rw [if_neg h1]
    by_cases h2 : j = a + n
    · rw [if_pos (by omega), if_pos h2]
      congr 1; omega
    · rw [if_neg h2]
      by_cases h3 : a ≤ j ∧ j < a + n
      · rw [if_pos (by omega), if_pos h3]
      · rw [if_neg (by omega), if_neg h3]
        by_cases h4 : b ≤ j ∧ j < b + n
        · rw [if_pos (by omega), if_pos h4]
        · rw [if_neg (by omega), if_neg h4]

/-- The two steps of a turn by exchanges, and its end. -/
theorem rotF_left (f : Nat → α) (m i j : Nat) (hi : i ≤ m) (h : j < i) : rotF (swF f (m - i) m j) (m - (i - j)) m (m + j) = rotF f (m - i) m (m + j) := by
  funext k
  unfold rotF swF
  repeat' split
  all_goals first | rfl | (exfalso; omega) | (congr 1; omega)
theorem rotF_right (f : Nat → α) (m i j : Nat) (hi : i ≤ m) (h : i < j) : rotF (swF f (m - i) (m + j - i) i) (m - i) m (m + (j - i)) = rotF f (m - i) m (m + j) := by
  funext k
  unfold rotF swF
  repeat' split
  all_goals first | rfl | (exfalso; omega) | (congr 1; omega)
theorem rotF_even (f : Nat → α) (m i : Nat) (hi : i ≤ m) : swF f (m - i) m i = rotF f (m - i) m (m + i) := by
  funext k
  unfold rotF swF
  repeat' split
  all_goals first | rfl | (exfalso; omega) | (congr 1; omega)
/-- One value goes up, one goes down, step by step. -/
theorem rotF_up (f : Nat → α) (a i : Nat) (h : a ≤ i) : (fun j => if j = i + 1 then rotF f a (a + 1) (i + 1) i else if j = i then rotF f a (a + 1) (i + 1) (i + 1) else rotF f a (a + 1) (i + 1) j) = rotF f a (a + 1) (i + 2) := by
  funext k
  unfold rotF
  repeat' split
  all_goals first | rfl | (exfalso; omega) | (congr 1; omega)
theorem rotF_down (f : Nat → α) (m i : Nat) (h : i < m) : (fun j => if j = i then rotF f (i + 1) m (m + 1) (i + 1) else if j = i + 1 then rotF f (i + 1) m (m + 1) i else rotF f (i + 1) m (m + 1) j) = rotF f i m (m + 1) := by
  funext k
  unfold rotF
  repeat' split
  all_goals first | rfl | (exfalso; omega) | (congr 1; omega)
theorem rotF_none (f : Nat → α) (a b : Nat) : rotF f a a b = f := by
  funext k
  unfold rotF
  repeat' split
  all_goals first | rfl | (exfalso; omega) | (congr 1; omega)
theorem rotF_none' (f : Nat → α) (a b : Nat) : rotF f a b b = f := by
  funext k
  unfold rotF
  repeat' split
  all_goals first | rfl | (exfalso; omega) | (congr 1; omega)
theorem rotF_out (f : Nat → α) (a m b j : Nat) (hm : a ≤ m) (hb : m ≤ b) (h : j < a ∨ b ≤ j) : rotF f a m b j = f j := by
  unfold rotF
  rw [if_neg (by omega), if_neg (by omega)]
theorem rotF_low (f : Nat → α) (a m b j : Nat) (h1 : a ≤ j) (h2 : j < a + (b - m)) : rotF f a m b j = f (j + (m - a)) := by
  unfold rotF
  rw [if_pos ⟨h1, h2⟩]
theorem rotF_high (f : Nat → α) (a m b j : Nat) (h1 : a + (b - m) ≤ j) (h2 : j < b) : rotF f a m b j = f (j - (b - m)) := by
  unfold rotF
  rw [if_neg (by omega), if_pos ⟨h1, h2⟩]

theorem sgF_app (f : Nat → α) (a b c : Nat) (h1 : a ≤ b) (h2 : b ≤ c) : sgF f a b ++ sgF f b c = sgF f a c := by
  unfold sgF
  rw [← List.map_append]
  have := List.range'_append (s := a) (m := b - a) (n := c - b) (step := 1)
  rw [show a + 1 * (b - a) = b by omega, show b - a + (c - b) = c - a by omega] at this
  rw [this]
theorem sgF_eq {f g : Nat → α} {a b : Nat} (h : ∀ j, a ≤ j → j < b → f j = g j) : sgF f a b = sgF g a b := by
  unfold sgF
  exact List.map_congr_left fun j hj => by
    obtain ⟨h1, h2⟩ := List.mem_range'_1.1 hj
    exact h j h1 (by omega)
theorem sgF_off {f g : Nat → α} {a b a' b' : Nat} (hl : b' - a' = b - a) (h : ∀ k, k < b - a → f (a' + k) = g (a + k)) : sgF f a' b' = sgF g a b := by
  unfold sgF
  rw [hl]
  apply List.ext_getElem?
  intro k
  rw [List.getElem?_map, List.getElem?_map]
  rcases Nat.lt_or_ge k (b - a) with hk | hk
  · rw [List.getElem?_range' hk, List.getElem?_range' hk]
    simp only [Option.map_some, Nat.one_mul]
    rw [h k hk]
  · rw [List.getElem?_eq_none (by rw [List.length_range']; exact hk), List.getElem?_eq_none (by rw [List.length_range']; exact hk)]; rfl
theorem sgF_nil (f : Nat → α) (a : Nat) : sgF f a a = [] := by simp [sgF]
theorem mem_sgF {f : Nat → α} {a b : Nat} {x : α} : x ∈ sgF f a b ↔ ∃ j, a ≤ j ∧ j < b ∧ f j = x := by
  unfold sgF
  rw [List.mem_map]
  constructor
  · rintro ⟨j, hj, rfl⟩
    obtain ⟨h1, h2⟩ := List.mem_range'_1.1 hj
    exact ⟨j, h1, by omega, rfl⟩
  · rintro ⟨j, h1, h2, rfl⟩
    exact ⟨j, List.mem_range'_1.2 ⟨h1, by omega⟩, rfl⟩
theorem sgF_rot (f : Nat → α) (a m b : Nat) (hm : a ≤ m) (hb : m ≤ b) : sgF (rotF f a m b) a b = sgF f m b ++ sgF f a m := by
  rw [← sgF_app (rotF f a m b) a (a + (b - m)) b (by omega) (by omega)]
  congr 1
  · exact sgF_off (by omega) fun k hk => by rw [rotF_low f a m b _ (by omega) (by omega)]; congr 1; omega
  · exact sgF_off (by omega) fun k hk => by rw [rotF_high f a m b _ (by omega) (by omega)]; congr 1; omega

/-- No later value is less than an earlier one. -/
def Asc (lt : α → α → Bool) (f : Nat → α) (a b : Nat) : Prop := ∀ i j, a ≤ i → i < j → j < b → lt (f j) (f i) = false
/-- Neither is less. -/
def eqv (lt : α → α → Bool) (x y : α) : Bool := !lt x y && !lt y x
theorem eqv_iff {lt : α → α → Bool} {x y : α} : eqv lt x y = true ↔ lt x y = false ∧ lt y x = false := by
  unfold eqv
  cases lt x y <;> cases lt y x <;> simp
theorem eqv_self {lt : α → α → Bool} (hS : SWO lt) (x : α) : eqv lt x x = true := eqv_iff.2 ⟨hS.irrefl x, hS.irrefl x⟩
theorem asym {lt : α → α → Bool} (hS : SWO lt) {x y : α} (h : lt x y = true) : lt y x = false := by
  cases hy : lt y x with
  | false => rfl
  | true => have := hS.trans x y x h hy; rw [hS.irrefl] at this; cases this
/-- Not less, then less. -/
theorem le_lt {lt : α → α → Bool} (hS : SWO lt) {x y z : α} (h1 : lt y x = false) (h2 : lt y z = true) : lt x z = true := by
  cases h : lt x z with
  | true => rfl
  | false => rw [hS.ntrans y x z h1 h] at h2; cases h2
theorem lt_le {lt : α → α → Bool} (hS : SWO lt) {x y z : α} (h1 : lt x y = true) (h2 : lt z y = false) : lt x z = true := by
  cases h : lt x z with
  | true => rfl
  | false => rw [hS.ntrans x z y h h2] at h1; cases h1

/-- From a up to b the values have changed places, equals among themselves in their order; nothing else has changed. -/
structure Kept (lt : α → α → Bool) (f g : Nat → α) (a b : Nat) : Prop where
  out : ∀ j, (j < a ∨ b ≤ j) → g j = f j
  cls : ∀ x, (sgF g a b).filter (eqv lt x) = (sgF f a b).filter (eqv lt x)
theorem Kept.refl (lt : α → α → Bool) (f : Nat → α) (a b : Nat) : Kept lt f f a b := ⟨fun _ _ => rfl, fun _ => rfl⟩
theorem Kept.trans {lt : α → α → Bool} {f g h : Nat → α} {a b : Nat} (h1 : Kept lt f g a b) (h2 : Kept lt g h a b) : Kept lt f h a b := ⟨fun j hj => (h2.out j hj).trans (h1.out j hj), fun x => (h2.cls x).trans (h1.cls x)⟩
theorem Kept.wide {lt : α → α → Bool} {f g : Nat → α} {a b a' b' : Nat} (h : Kept lt f g a b) (h1 : a' ≤ a) (hab : a ≤ b) (h2 : b ≤ b') : Kept lt f g a' b' := by
  have e1 : sgF g a' a = sgF f a' a := sgF_eq fun j _ hj => h.out j (.inl hj)
  have e2 : sgF g b b' = sgF f b b' := sgF_eq fun j hj _ => h.out j (.inr hj)
  refine ⟨fun j hj => h.out j (by omega), fun x => ?_⟩
  rw [← sgF_app g a' a b' h1 (by omega), ← sgF_app g a b b' hab h2, ← sgF_app f a' a b' h1 (by omega), ← sgF_app f a b b' hab h2]
  simp only [List.filter_append]
  rw [h.cls, e1, e2]
/-- A value behind was there before. -/
theorem Kept.was {lt : α → α → Bool} (hS : SWO lt) {f g : Nat → α} {a b : Nat} (h : Kept lt f g a b) {j : Nat} (h1 : a ≤ j) (h2 : j < b) : ∃ i, a ≤ i ∧ i < b ∧ f i = g j := by
  have hm : g j ∈ (sgF g a b).filter (eqv lt (g j)) := List.mem_filter.2 ⟨mem_sgF.2 ⟨j, h1, h2, rfl⟩, eqv_self hS _⟩
  rw [h.cls] at hm
  obtain ⟨i, g1, g2, g3⟩ := mem_sgF.1 (List.mem_filter.1 hm).1
  exact ⟨i, g1, g2, g3⟩
/-- A turn of lesser ones ahead of greater ones. -/
theorem kept_rot {lt : α → α → Bool} (hS : SWO lt) {f : Nat → α} {a m b : Nat} (hm : a ≤ m) (hb : m ≤ b) (hl : ∀ i j, a ≤ i → i < m → m ≤ j → j < b → lt (f j) (f i) = true) : Kept lt f (rotF f a m b) a b := by
  refine ⟨fun j hj => rotF_out f a m b j hm hb hj, fun x => ?_⟩
  rw [sgF_rot f a m b hm hb, ← sgF_app f a m b hm hb]
  simp only [List.filter_append]
  by_cases h1 : (sgF f a m).filter (eqv lt x) = []
  · rw [h1]; simp
  · have h2 : (sgF f m b).filter (eqv lt x) = [] := by
      rw [List.filter_eq_nil_iff]
      intro y hy hxy
      obtain ⟨j, j1, j2, rfl⟩ := mem_sgF.1 hy
      obtain ⟨z, hz⟩ := List.exists_mem_of_ne_nil _ h1
      obtain ⟨hz1, hz2⟩ := List.mem_filter.1 hz
      obtain ⟨i, i1, i2, rfl⟩ := mem_sgF.1 hz1
      have e1 := eqv_iff.1 hxy
      have e2 := eqv_iff.1 hz2
      have := hl i j i1 i2 j1 j2
      rw [hS.ntrans _ _ _ e1.2 e2.1] at this
      cases this
    rw [h2]; simp
theorem Asc.sub {lt : α → α → Bool} {f : Nat → α} {a b a' b' : Nat} (h : Asc lt f a b) (h1 : a ≤ a') (h2 : b' ≤ b) : Asc lt f a' b' := fun i j hi hij hj => h i j (by omega) hij (by omega)
theorem Asc.le {lt : α → α → Bool} (hS : SWO lt) {f : Nat → α} {a b : Nat} (h : Asc lt f a b) {i j : Nat} (hi : a ≤ i) (hij : i ≤ j) (hj : j < b) : lt (f j) (f i) = false := by
  rcases Nat.lt_or_eq_of_le hij with g | g
  · exact h i j hi g hj
  · rw [← g]; exact hS.irrefl _
theorem Asc.eq {lt : α → α → Bool} {f g : Nat → α} {a b : Nat} (h : Asc lt f a b) (he : ∀ j, a ≤ j → j < b → g j = f j) : Asc lt g a b := fun i j hi hij hj => by
  rw [he j (by omega) hj, he i hi (by omega)]
  exact h i j hi hij hj
theorem Asc.off {lt : α → α → Bool} {f g : Nat → α} {a b a' b' : Nat} (h : Asc lt f a b) (hl : b' - a' = b - a) (hb : a' ≤ b') (he : ∀ k, k < b - a → g (a' + k) = f (a + k)) : Asc lt g a' b' := fun i j hi hij hj => by
  rw [show j = a' + (j - a') by omega, he _ (by omega), show i = a' + (i - a') by omega, he _ (by omega)]
  exact h _ _ (by omega) (by omega) (by omega)

/-- One value ahead of a sorted range. -/
theorem merge_one {lt : α → α → Bool} (hS : SWO lt) {f : Nat → α} {a i b : Nat} (hs : Asc lt f (a + 1) b) (h1 : a + 1 ≤ i) (h2 : i ≤ b) (hlo : i = a + 1 ∨ lt (f (i - 1)) (f a) = true) (hhi : i = b ∨ lt (f i) (f a) = false) :
    Kept lt f (rotF f a (a + 1) i) a b ∧ Asc lt (rotF f a (a + 1) i) a b := by
  have hless : ∀ j, a + 1 ≤ j → j < i → lt (f j) (f a) = true := fun j g1 g2 => by
    rcases hlo with h | h
    · omega
    · exact le_lt hS (hs.le hS g1 (show j ≤ i - 1 by omega) (by omega)) h
  constructor
  · exact (kept_rot hS (by omega) h1 (fun p j g1 g2 g3 g4 => by rw [show p = a by omega]; exact hless j g3 g4)).wide (Nat.le_refl _) (by omega) h2
  · intro p q g1 g2 g3
    have hge : ∀ j, i ≤ j → j < b → lt (f j) (f a) = false := fun j k1 k2 => by
      rcases hhi with h | h
      · omega
      · exact hS.ntrans _ _ _ (hs.le hS (by omega) k1 k2) h
    rcases Nat.lt_or_ge p (i - 1) with c | c
    · rw [rotF_low f a (a + 1) i p g1 (by omega)]
      rcases Nat.lt_or_ge q (i - 1) with d | d
      · rw [rotF_low f a (a + 1) i q (by omega) (by omega)]
        exact hs.le hS (by omega) (by omega) (by omega)
      · rcases Nat.lt_or_ge q i with d2 | d2
        · rw [rotF_high f a (a + 1) i q (by omega) d2, show q - (i - (a + 1)) = a by omega]
          exact asym hS (hless _ (by omega) (by omega))
        · rw [rotF_out f a (a + 1) i q (by omega) h1 (.inr d2)]
          exact hs.le hS (by omega) (by omega) g3
    · rw [rotF_out f a (a + 1) i q (by omega) h1 (.inr (by omega))]
      rcases Nat.lt_or_ge p i with c2 | c2
      · rw [rotF_high f a (a + 1) i p (by omega) c2, show p - (i - (a + 1)) = a by omega]
        exact hge q (by omega) g3
      · rw [rotF_out f a (a + 1) i p (by omega) h1 (.inr c2)]
        exact hs.le hS (by omega) (by omega) g3
/-- One value behind a sorted range. -/
theorem merge_last {lt : α → α → Bool} (hS : SWO lt) {f : Nat → α} {a i m : Nat} (hs : Asc lt f a m) (h1 : a ≤ i) (h2 : i ≤ m) (hlo : i = a ∨ lt (f m) (f (i - 1)) = false) (hhi : i = m ∨ lt (f m) (f i) = true) :
    Kept lt f (rotF f i m (m + 1)) a (m + 1) ∧ Asc lt (rotF f i m (m + 1)) a (m + 1) := by
  have hless : ∀ j, i ≤ j → j < m → lt (f m) (f j) = true := fun j g1 g2 => by
    rcases hhi with h | h
    · omega
    · exact lt_le hS h (hs.le hS h1 g1 g2)
  have hge : ∀ j, a ≤ j → j < i → lt (f m) (f j) = false := fun j g1 g2 => by
    rcases hlo with h | h
    · omega
    · exact hS.ntrans _ _ _ h (hs.le hS g1 (show j ≤ i - 1 by omega) (by omega))
  constructor
  · exact (kept_rot hS h2 (by omega) (fun p j g1 g2 g3 g4 => by rw [show j = m by omega]; exact hless p g1 g2)).wide h1 (by omega) (Nat.le_refl _)
  · intro p q g1 g2 g3
    rcases Nat.lt_or_ge i q with c | c
    · rw [rotF_high f i m (m + 1) q (by omega) g3, show q - (m + 1 - m) = q - 1 by omega]
      rcases Nat.lt_or_ge p i with d | d
      · rw [rotF_out f i m (m + 1) p h2 (by omega) (.inl d)]
        exact hs.le hS g1 (by omega) (by omega)
      · rcases Nat.lt_or_eq_of_le d with d2 | rfl
        · rw [rotF_high f i m (m + 1) p (by omega) (by omega), show p - (m + 1 - m) = p - 1 by omega]
          exact hs.le hS (by omega) (by omega) (by omega)
        · rw [rotF_low f i m (m + 1) i (by omega) (by omega), show i + (m - i) = m by omega]
          exact asym hS (hless _ (by omega) (by omega))
    · rw [rotF_out f i m (m + 1) p h2 (by omega) (.inl (by omega))]
      rcases Nat.lt_or_eq_of_le c with c2 | rfl
      · rw [rotF_out f i m (m + 1) q h2 (by omega) (.inl c2)]
        exact hs p q g1 g2 (by omega)
      · rw [rotF_low f q m (m + 1) q (by omega) (by omega), show q + (m - q) = m by omega]
        exact hge p g1 g2
/-- The turn about the middle: both halves hold what belongs there. -/
theorem merge_mid {lt : α → α → Bool} (hS : SWO lt) {f : Nat → α} {a s m e b : Nat} (ha : Asc lt f a m) (hb : Asc lt f m b) (h1 : a ≤ s) (h2 : s ≤ m) (h3 : m ≤ e) (h4 : e ≤ b)
    (hlo : s = a ∨ e = b ∨ lt (f e) (f (s - 1)) = false) (hhi : s = m ∨ e = m ∨ lt (f (e - 1)) (f s) = true) :
    Kept lt f (rotF f s m e) a b ∧ (∀ i j, a ≤ i → i < s + (e - m) → s + (e - m) ≤ j → j < b → lt (rotF f s m e j) (rotF f s m e i) = false) := by
  have hless : ∀ i j, s ≤ i → i < m → m ≤ j → j < e → lt (f j) (f i) = true := fun i j g1 g2 g3 g4 => by
    rcases hhi with h | h | h
    · omega
    · omega
    · exact lt_le hS (le_lt hS (hb.le hS g3 (show j ≤ e - 1 by omega) (by omega)) h) (ha.le hS h1 g1 g2)
  constructor
  · exact (kept_rot hS h2 h3 hless).wide h1 (by omega) h4
  · intro i j g1 g2 g3 g4
    rcases Nat.lt_or_ge i s with c | c
    · rw [rotF_out f s m e i h2 h3 (.inl c)]
      rcases Nat.lt_or_ge j e with d | d
      · rw [rotF_high f s m e j g3 d]
        exact ha.le hS g1 (show i ≤ j - (e - m) by omega) (by omega)
      · rw [rotF_out f s m e j h2 h3 (.inr d)]
        rcases hlo with h | h | h
        · omega
        · omega
        · exact hS.ntrans _ _ _ (hS.ntrans _ _ _ (hb.le hS h3 d g4) h) (ha.le hS g1 (show i ≤ s - 1 by omega) (by omega))
    · rw [rotF_low f s m e i c g2]
      rcases Nat.lt_or_ge j e with d | d
      · rw [rotF_high f s m e j g3 d]
        exact asym hS (hless _ _ (by omega) (by omega) (by omega) (by omega))
      · rw [rotF_out f s m e j h2 h3 (.inr d)]
        exact hb.le hS (show m ≤ i + (m - s) by omega) (by omega) g4
/-- Both halves merged: all is. -/
theorem merge_done {lt : α → α → Bool} (hS : SWO lt) {f g h k : Nat → α} {a c b : Nat} (hac : a ≤ c) (hcb : c ≤ b) (h0 : Kept lt f g a b) (hx : ∀ i j, a ≤ i → i < c → c ≤ j → j < b → lt (g j) (g i) = false) (h1 : Kept lt g h a c) (s1 : Asc lt h a c) (h2 : Kept lt h k c b) (s2 : Asc lt k c b) :
    Kept lt f k a b ∧ Asc lt k a b := by
  refine ⟨(h0.trans (h1.wide (Nat.le_refl _) hac hcb)).trans (h2.wide hac hcb (Nat.le_refl _)), fun i j g1 g2 g3 => ?_⟩
  rcases Nat.lt_or_ge j c with d | d
  · rw [h2.out j (.inl d), h2.out i (.inl (by omega))]
    exact s1 i j g1 g2 d
  · rcases Nat.lt_or_ge i c with d' | d'
    · rw [h2.out i (.inl d')]
      obtain ⟨i0, e1, e2, e3⟩ := h1.was hS g1 d'
      obtain ⟨j0, e4, e5, e6⟩ := h2.was hS d g3
      rw [h1.out j0 (.inr e4)] at e6
      rw [← e3, ← e6]
      exact hx i0 j0 e1 e2 e4 e5
    · exact s2 i j d' g2 g3
/-- The pieces of the turned row are sorted. -/
theorem asc_left {lt : α → α → Bool} {f : Nat → α} {a s m e b : Nat} (ha : Asc lt f a m) (hb : Asc lt f m b) (h1 : a ≤ s) (h2 : s ≤ m) (h3 : m ≤ e) (h4 : e ≤ b) : Asc lt (rotF f s m e) a s ∧ Asc lt (rotF f s m e) s (s + (e - m)) ∧ Asc lt (rotF f s m e) (s + (e - m)) e ∧ Asc lt (rotF f s m e) e b := by
  refine ⟨(ha.sub (Nat.le_refl _) h2).eq fun j _ g => rotF_out f s m e j h2 h3 (.inl g), (hb.sub (Nat.le_refl _) h4).off (by omega) (by omega) fun k hk => ?_, (ha.sub h1 (Nat.le_refl _)).off (by omega) (by omega) fun k hk => ?_, (hb.sub h3 (Nat.le_refl _)).eq fun j g _ => rotF_out f s m e j h2 h3 (.inr g)⟩
  · rw [rotF_low f s m e _ (by omega) (by omega)]; congr 1; omega
  · rw [rotF_high f s m e _ (by omega) (by omega)]; congr 1; omega

/-! ### There is one list sorted so -/
theorem sorted_one {lt : α → α → Bool} (hS : SWO lt) : ∀ (l k : List α), l.Pairwise (fun x y => lt y x = false) → k.Pairwise (fun x y => lt y x = false) → (∀ x, l.filter (eqv lt x) = k.filter (eqv lt x)) → l = k
  | [], [], _, _, _ => rfl
  | [], y :: k, _, _, h => by
    have := h y
    rw [List.filter_cons, if_pos (eqv_self hS y)] at this
    cases this
  | x :: l, [], _, _, h => by
    have := h x
    rw [List.filter_cons, if_pos (eqv_self hS x)] at this
    cases this
  | x :: l, y :: k, h1, h2, h => by
    have hx : x ∈ y :: k := by
      have : x ∈ (x :: l).filter (eqv lt x) := List.mem_filter.2 ⟨List.mem_cons_self .., eqv_self hS x⟩
      rw [h] at this
      exact (List.mem_filter.1 this).1
    have hy : y ∈ x :: l := by
      have : y ∈ (y :: k).filter (eqv lt y) := List.mem_filter.2 ⟨List.mem_cons_self .., eqv_self hS y⟩
      rw [← h] at this
      exact (List.mem_filter.1 this).1
    have l1 : lt y x = false := by
      rcases List.mem_cons.1 hy with rfl | hy
      · exact hS.irrefl _
      · exact (List.pairwise_cons.1 h1).1 y hy
    have l2 : lt x y = false := by
      rcases List.mem_cons.1 hx with rfl | hx
      · exact hS.irrefl _
      · exact (List.pairwise_cons.1 h2).1 x hx
    have e := h x
    rw [List.filter_cons, if_pos (eqv_self hS x), List.filter_cons, if_pos (eqv_iff.2 ⟨l2, l1⟩)] at e
    obtain rfl : x = y := (List.cons.inj e).1
    refine congrArg (x :: ·) (sorted_one hS l k (List.pairwise_cons.1 h1).2 (List.pairwise_cons.1 h2).2 fun z => ?_)
    have e2 := h z
    rw [List.filter_cons, List.filter_cons] at e2
    split at e2
    · exact (List.cons.inj e2).2
    · exact e2
/-- The list, sorted: each put ahead of the first that is not less. -/
def sins (lt : α → α → Bool) (x : α) : List α → List α
  | [] => [x]
  | y :: l => if lt y x then y :: sins lt x l else x :: y :: l
def ssort (lt : α → α → Bool) : List α → List α
  | [] => []
  | x :: l => sins lt x (ssort lt l)
theorem sins_mem {lt : α → α → Bool} {x z : α} : ∀ {l : List α}, z ∈ sins lt x l ↔ z = x ∨ z ∈ l
  | [] => by simp [sins]
  | y :: l => by
    unfold sins
    split
    · rw [List.mem_cons, sins_mem, List.mem_cons]
      constructor
      · rintro (h | h | h) <;> simp [h]
      · rintro (h | h | h) <;> simp [h]
    · simp
theorem sins_sorted {lt : α → α → Bool} (hS : SWO lt) (x : α) : ∀ (l : List α), l.Pairwise (fun x y => lt y x = false) → (sins lt x l).Pairwise (fun x y => lt y x = false)
  | [], _ => by simp [sins]
  | y :: l, h => by
    obtain ⟨h1, h2⟩ := List.pairwise_cons.1 h
    unfold sins
    split
    · rename_i hc
      refine List.pairwise_cons.2 ⟨fun z hz => ?_, sins_sorted hS x l h2⟩
      rcases sins_mem.1 hz with rfl | hz
      · exact asym hS hc
      · exact h1 z hz
    · rename_i hc
      have hc2 : lt y x = false := by simpa using hc
      refine List.pairwise_cons.2 ⟨fun z hz => ?_, h⟩
      rcases List.mem_cons.1 hz with rfl | hz
      · exact hc2
      · exact hS.ntrans _ _ _ (h1 z hz) hc2
theorem sins_filter {lt : α → α → Bool} (hS : SWO lt) (x z : α) : ∀ (l : List α), (sins lt x l).filter (eqv lt z) = (x :: l).filter (eqv lt z)
  | [] => rfl
  | y :: l => by
    unfold sins
    split
    · rename_i hc
      rw [List.filter_cons, sins_filter hS x z l, List.filter_cons, List.filter_cons (x := x), List.filter_cons (x := y)]
      cases h1 : eqv lt z x <;> cases h2 : eqv lt z y <;> simp
      have e1 := eqv_iff.1 h1
      have e2 := eqv_iff.1 h2
      rw [hS.ntrans _ _ _ e2.2 e1.1] at hc
      cases hc
    · rfl
theorem ssort_sorted {lt : α → α → Bool} (hS : SWO lt) : ∀ (l : List α), (ssort lt l).Pairwise (fun x y => lt y x = false)
  | [] => List.Pairwise.nil
  | x :: l => sins_sorted hS x _ (ssort_sorted hS l)
theorem ssort_filter {lt : α → α → Bool} (hS : SWO lt) (z : α) : ∀ (l : List α), (ssort lt l).filter (eqv lt z) = l.filter (eqv lt z)
  | [] => rfl
  | x :: l => by
    unfold ssort
    rw [sins_filter hS, List.filter_cons, ssort_filter hS z l, List.filter_cons]
theorem ssort_perm (lt : α → α → Bool) : ∀ (l : List α), (ssort lt l).Perm l
  | [] => .nil
  | x :: l => by
    have hp : ∀ k : List α, (sins lt x k).Perm (x :: k) := fun k => by
      induction k with
      | nil => exact .refl _
      | cons y k ih =>
        unfold sins
        split
        · exact (List.Perm.cons y ih).trans (.swap ..)
        · exact .refl _
    exact (hp _).trans (List.Perm.cons x (ssort_perm lt l))
theorem ssort_length (lt : α → α → Bool) (l : List α) : (ssort lt l).length = l.length := (ssort_perm lt l).length_eq
theorem sgF_sorted {lt : α → α → Bool} {g : Nat → α} {a b : Nat} (h : Asc lt g a b) : (sgF g a b).Pairwise (fun x y => lt y x = false) := by
  unfold sgF
  rw [List.pairwise_map]
  have : ∀ n s, a ≤ s → s + n ≤ b → (List.range' s n).Pairwise (fun x y => lt (g y) (g x) = false) := by
    intro n
    induction n with
    | zero => intro s _ _; exact List.Pairwise.nil
    | succ n ih =>
      intro s h1 h2
      rw [List.range'_succ]
      refine List.pairwise_cons.2 ⟨fun y hy => ?_, ih (s + 1) (by omega) (by omega)⟩
      obtain ⟨y1, y2⟩ := List.mem_range'_1.1 hy
      exact h s y h1 (by omega) (by omega)
  rcases Nat.lt_or_ge a b with hab | hab
  · exact this (b - a) a (Nat.le_refl _) (by omega)
  · rw [show b - a = 0 by omega]; exact List.Pairwise.nil
/-- What has been sorted so is the list sorted. -/
theorem Kept.is {lt : α → α → Bool} (hS : SWO lt) {f g : Nat → α} {a b : Nat} (h : Kept lt f g a b) (hs : Asc lt g a b) : sgF g a b = ssort lt (sgF f a b) :=
  sorted_one hS _ _ (sgF_sorted hs) (ssort_sorted hS _) fun x => (h.cls x).trans (ssort_filter hS x _).symm

/-! ### What the walks lean on -/
theorem asc_or {lt : α → α → Bool} {f : Nat → α} {a s c : Nat} (h1 : a ≤ s) (h2 : s ≤ c) (h : ¬ (a < s ∧ s < c)) (p1 : Asc lt f a s) (p2 : Asc lt f s c) : Asc lt f a c := by
  rcases Nat.lt_or_eq_of_le h1 with c1 | rfl
  · rcases Nat.lt_or_eq_of_le h2 with c2 | rfl
    · exact absurd ⟨c1, c2⟩ h
    · exact p1
  · exact p2

/-- In blocks of B, each sorted. -/
def Blks (lt : α → α → Bool) (f : Nat → α) (B n : Nat) : Prop := ∀ k, Asc lt f (k * B) (min (k * B + B) n)
theorem blks_end {lt : α → α → Bool} {f : Nat → α} {B n q : Nat} (h1 : ∀ k, k < q → Asc lt f (k * B) (k * B + B)) (h2 : Asc lt f (q * B) n) (h3 : n < q * B + B) : Blks lt f B n := fun k => by
  rcases Nat.lt_trichotomy k q with h | rfl | h
  · exact (h1 k h).sub (Nat.le_refl _) (Nat.min_le_left _ _)
  · exact h2.sub (Nat.le_refl _) (Nat.min_le_right _ _)
  · have : (q + 1) * B ≤ k * B := Nat.mul_le_mul_right B h
    rw [Nat.add_mul, Nat.one_mul] at this
    intro i j g1 g2 g3
    have := Nat.min_le_right (k * B + B) n
    omega
theorem Kept.ahead {lt : α → α → Bool} {f g : Nat → α} {a b a' b' : Nat} (h : Kept lt f g a b) (hs : Asc lt f a' b') (hd : b' ≤ a ∨ b ≤ a') : Asc lt g a' b' := hs.eq fun j g1 g2 => h.out j (by omega)
end Go.Proofs.YtpkclmfadlkbeaaDoor

namespace Go.Proofs.YtpkclmfadlkbeaaDoor
open Go.RowKit

structure Pt3 where
  x : Int
  y : Int
  w : Int
  deriving DecidableEq, Inhabited
def Pt3.cells (p : Pt3) : List Value := [.int .i64 p.x, .int .i64 p.y, .int .i64 p.w]
def Pt3.Fits (p : Pt3) : Prop := (Lit.int .i64 p.x).wf = true ∧ (Lit.int .i64 p.y).wf = true ∧ (Lit.int .i64 p.w).wf = true
structure Rc4 where
  x0 : Int
  y0 : Int
  x1 : Int
  y1 : Int
def Rc4.Fits (r : Rc4) : Prop := (Lit.int .i64 r.x0).wf = true ∧ (Lit.int .i64 r.y0).wf = true ∧ (Lit.int .i64 r.x1).wf = true ∧ (Lit.int .i64 r.y1).wf = true

/-- Points, cell by cell. -/
def ptC : List Pt3 → List Value
  | [] => []
  | o :: r => o.cells ++ ptC r
theorem ptC_length : ∀ ps : List Pt3, (ptC ps).length = ps.length * 3
  | [] => rfl
  | o :: r => by
    unfold ptC
    rw [List.length_append, ptC_length r, List.length_cons]
    show 3 + r.length * 3 = _
    omega
theorem ptC_get : ∀ (ps : List Pt3) (i : Nat) (o : Pt3) (j : Nat), ps[i]? = some o → j < 3 → (ptC ps)[i * 3 + j]? = o.cells[j]?
  | [], i, o, j, h, _ => by simp at h
  | a :: r, 0, o, j, h, hj => by
    obtain rfl : a = o := by simpa using h
    unfold ptC
    rw [List.getElem?_append_left (by show 0 * 3 + j < 3; omega)]
    congr 1
    omega
  | a :: r, i + 1, o, j, h, hj => by
    unfold ptC
    rw [List.getElem?_append_right (by show 3 ≤ (i + 1) * 3 + j; omega)]
    have e : (i + 1) * 3 + j - a.cells.length = i * 3 + j := by show (i + 1) * 3 + j - 3 = _; omega
    rw [e]
    exact ptC_get r i o j (by simpa using h) hj
theorem ptC_append (a b : List Pt3) : ptC (a ++ b) = ptC a ++ ptC b := by
  induction a with
  | nil => rfl
  | cons o r ih => show o.cells ++ ptC (r ++ b) = (o.cells ++ ptC r) ++ ptC b; rw [ih, List.append_assoc]
theorem ptC_one (ps : List Pt3) : ∀ u ∈ ptC ps, u.oneCell' = true := by
  induction ps with
  | nil => intro u hu; cases hu
  | cons o r ih =>
    intro u hu
    unfold ptC at hu
    rcases List.mem_append.1 hu with e | e
    · unfold Pt3.cells at e
      simp only [List.mem_cons, List.not_mem_nil, or_false] at e
      rcases e with rfl | rfl | rfl <;> rfl
    · exact ih u e
/-- A point's cells. -/
theorem pts_at {w : World} {B : Nat} {A : Option Addr} {ps : List Pt3} (h : Lies w B A (ptC ps)) {i : Nat} {o : Pt3} (hi : ps[i]? = some o) :
    ∃ b p, A = some ⟨b, p, none⟩ ∧ b < B ∧ w.cell? ⟨b, p + i * 3, none⟩ = some (.int .i64 o.x) ∧ w.cell? ⟨b, p + i * 3 + 1, none⟩ = some (.int .i64 o.y) ∧ w.cell? ⟨b, p + i * 3 + 2, none⟩ = some (.int .i64 o.w) := by
  have hlt : i < ps.length := (List.getElem?_eq_some_iff.1 hi).1
  obtain ⟨b, p, e, hb, hc⟩ := h (by
    intro e
    have := ptC_length ps
    rw [e] at this
    simp at this
    omega)
  refine ⟨b, p, e, hb, ?_, ?_, ?_⟩
  · exact hc (i * 3) _ (ptC_get ps i o 0 hi (by decide))
  · rw [Nat.add_assoc]; exact hc (i * 3 + 1) _ (ptC_get ps i o 1 hi (by decide))
  · rw [Nat.add_assoc]; exact hc (i * 3 + 2) _ (ptC_get ps i o 2 hi (by decide))

/-- A coordinate or a weight that may be. -/
def coOk (x : Int) : Bool := decide (-1048576 ≤ x) && decide (x ≤ 1048576)
def ptOk (p : Pt3) : Bool := coOk p.x && coOk p.y && coOk p.w
/-- What is refused of points: the error's number. -/
def ptsF (ps : List Pt3) : Int := if 150 < ps.length then 1 else if ps.all ptOk then 0 else 2
theorem ptsF_zero {ps : List Pt3} (h : ptsF ps = 0) : ps.length ≤ 150 ∧ ∀ p ∈ ps, ptOk p = true := by
  unfold ptsF at h
  split at h
  · omega
  · split at h
    · rename_i h1 h2
      exact ⟨by omega, List.all_eq_true.1 h2⟩
    · omega
theorem ptsF_cases (ps : List Pt3) : ptsF ps = 0 ∨ ptsF ps = 1 ∨ ptsF ps = 2 := by
  unfold ptsF
  split
  · exact .inr (.inl rfl)
  · split
    · exact .inl rfl
    · exact .inr (.inr rfl)
/-- In a rectangle. -/
def inR (r : Rc4) (p : Pt3) : Bool := decide (r.x0 ≤ p.x) && decide (p.x ≤ r.x1) && decide (r.y0 ≤ p.y) && decide (p.y ≤ r.y1)
/-- The places of the first points that are in a rectangle, and of all. -/
def ptAt (ps : List Pt3) (i : Nat) : Pt3 := ps.getD i ⟨0, 0, 0⟩
theorem ptAt_get {ps : List Pt3} {i : Nat} (h : i < ps.length) : ps[i]? = some (ptAt ps i) := by unfold ptAt; rw [List.getD_eq_getElem?_getD, List.getElem?_eq_getElem h]; rfl
theorem ptAt_of {ps : List Pt3} {i : Nat} {p : Pt3} (h : ps[i]? = some p) : ptAt ps i = p := by unfold ptAt; rw [List.getD_eq_getElem?_getD, h]; rfl
def insTo (ps : List Pt3) (r : Rc4) (i : Nat) : List Nat := (List.range i).filter fun j => inR r (ptAt ps j)
def insR (ps : List Pt3) (r : Rc4) : List Nat := insTo ps r ps.length
theorem insTo_zero (ps : List Pt3) (r : Rc4) : insTo ps r 0 = [] := rfl
theorem insTo_yes {ps : List Pt3} {r : Rc4} {i : Nat} {p : Pt3} (hp : ps[i]? = some p) (h : inR r p = true) : insTo ps r (i + 1) = insTo ps r i ++ [i] := by
  unfold insTo
  rw [List.range_succ, List.filter_append]
  simp [ptAt_of hp, h]
theorem insTo_no {ps : List Pt3} {r : Rc4} {i : Nat} {p : Pt3} (hp : ps[i]? = some p) (h : inR r p = false) : insTo ps r (i + 1) = insTo ps r i := by
  unfold insTo
  rw [List.range_succ, List.filter_append]
  simp [ptAt_of hp, h]
theorem insTo_length (ps : List Pt3) (r : Rc4) (i : Nat) : (insTo ps r i).length ≤ i := by
  unfold insTo
  exact Nat.le_trans (List.length_filter_le _ _) (by simp)
theorem insTo_lt {ps : List Pt3} {r : Rc4} {i : Nat} : ∀ x ∈ insTo ps r i, x < i := fun x hx => by
  unfold insTo at hx
  exact List.mem_range.1 (List.mem_filter.1 hx).1
theorem insR_mem {ps : List Pt3} {r : Rc4} {x : Nat} : x ∈ insR ps r ↔ x < ps.length ∧ inR r (ptAt ps x) = true := by
  unfold insR insTo
  rw [List.mem_filter, List.mem_range]
theorem insR_sorted (ps : List Pt3) (r : Rc4) : (insR ps r).Pairwise (· < ·) := List.pairwise_lt_range.filter _

/-- A number and an error. -/
def TellsG (w : World) (x r : Int) (e : Ending) (w' : World) : Prop := e = .returned (.tuple #[.int .i64 x, .int .i64 r]) ∧ Below w.heap.size w w'
/-- A list of numbers and OK; no list and an error. -/
def GivesGL (w : World) (l : List Nat) (e : Ending) (w' : World) : Prop := ∃ A c, e = .returned (.tuple #[.slice A l.length c, .int .i64 0]) ∧ l.length ≤ c ∧ Lies w' w'.heap.size A (natC l) ∧ (A = none → c = 0) ∧ New w.heap.size A ∧ Below w.heap.size w w'
def NoGL (w : World) (r : Int) (e : Ending) (w' : World) : Prop := e = .returned (.tuple #[.slice none 0 0, .int .i64 r]) ∧ Below w.heap.size w w'
/-- What the kth of a list comes to: the error; the number. -/
def kthE (m : Nat) (k : Int) : Int := if k < 0 then 2 else if (m : Int) ≤ k then 7 else 0
def kthV (L : List Nat) (k : Int) : Int := if 0 ≤ k ∧ k < (L.length : Int) then ((L.getD k.toNat 0 : Nat) : Int) else 0
/-- The first of a list, as many as are asked. -/
def topN (L : List Nat) (k : Int) : List Nat := L.take k.toNat
/-- A point, a rectangle as a value. -/
def Pt3.val (p : Pt3) : Value := .agg #[.int .i64 p.x, .int .i64 p.y, .int .i64 p.w]
def Rc4.val (r : Rc4) : Value := .agg #[.int .i64 r.x0, .int .i64 r.y0, .int .i64 r.x1, .int .i64 r.y1]
end Go.Proofs.YtpkclmfadlkbeaaDoor

namespace Go.Proofs.YtpkclmfadlkbeaaDoor
open Go.Sort

/-- The four orders. -/
def ltN (_ _ : Pt3) : Bool := false
def ltX (p q : Pt3) : Bool := decide (p.x < q.x) || (decide (p.x = q.x) && decide (p.y < q.y))
def ltY (p q : Pt3) : Bool := decide (p.y < q.y) || (decide (p.y = q.y) && decide (p.x < q.x))
def ltW (p q : Pt3) : Bool := decide (q.w < p.w)
theorem ltX_iff {p q : Pt3} : ltX p q = true ↔ p.x < q.x ∨ (p.x = q.x ∧ p.y < q.y) := by simp [ltX]
theorem ltY_iff {p q : Pt3} : ltY p q = true ↔ p.y < q.y ∨ (p.y = q.y ∧ p.x < q.x) := by simp [ltY]
theorem ltW_iff {p q : Pt3} : ltW p q = true ↔ q.w < p.w := by simp [ltW]
theorem ltN_swo : SWO ltN where
  irrefl := fun _ => rfl
  trans := fun _ _ _ h => by cases h
  ntrans := fun _ _ _ _ _ => rfl
theorem ltX_swo : SWO ltX := ⟨fun x => by rw [Bool.eq_false_iff, ne_eq, ltX_iff]; omega, fun x y z h1 h2 => by rw [ltX_iff] at *; omega, fun x y z h1 h2 => by rw [Bool.eq_false_iff, ne_eq, ltX_iff] at *; omega⟩
theorem ltY_swo : SWO ltY := ⟨fun x => by rw [Bool.eq_false_iff, ne_eq, ltY_iff]; omega, fun x y z h1 h2 => by rw [ltY_iff] at *; omega, fun x y z h1 h2 => by rw [Bool.eq_false_iff, ne_eq, ltY_iff] at *; omega⟩
theorem ltW_swo : SWO ltW := ⟨fun x => by rw [Bool.eq_false_iff, ne_eq, ltW_iff]; omega, fun x y z h1 h2 => by rw [ltW_iff] at *; omega, fun x y z h1 h2 => by rw [Bool.eq_false_iff, ne_eq, ltW_iff] at *; omega⟩
/-- An order of points, told of places. -/
def ltP (ps : List Pt3) (lt : Pt3 → Pt3 → Bool) (i j : Nat) : Bool := lt (ptAt ps i) (ptAt ps j)
theorem ltP_swo {ps : List Pt3} {lt : Pt3 → Pt3 → Bool} (h : SWO lt) : SWO (ltP ps lt) := ⟨fun _ => h.irrefl _, fun _ _ _ => h.trans _ _ _, fun _ _ _ => h.ntrans _ _ _⟩
end Go.Proofs.YtpkclmfadlkbeaaDoor

namespace Go.Proofs.YtpkclmfadlkbeaaDoor
open Go.RowKit

/-- 'append(out, u)', one cell an element, out nil or the call's own. -/
theorem append_one_at {P : Program} (w : World) {ops : Array Oper} {rest : List Oper} {o : Oper} {a : Act} {Q : Exit → Act → World → Prop} (hgd : o.guard = none) (s x : Operand) (t : TypeId)
    (ho : o.op = .call { callee := .builtin .append, args := #[s, x], argTypes := #[t, t] }) (base : Nat) (e : TypeId) (z : Value) (bytes : Nat) (ht : P.underlying t = some (.slice e))
    (hinfo : (P.info? e).map (fun i => (i.zero, i.size, i.bytes)) = some (some z, 1, bytes)) (hz : z.cells.size = 1) (v : Value) (n : Nat) (xs : List Value) (hs : a.eval s = v) (hown : w.ownsRow base e 1 v n xs)
    (g c : Nat) (u : Value) (hx : a.eval x = .slice (some ⟨g, 0, none⟩) 1 c) (hu : w.cell? ⟨g, 0, none⟩ = some u) (h1 : u.oneCell' = true) (h63 : n + 1 ≤ maxLen) (hbytes : (n + 1) * bytes ≤ 140737488355328) (hbase : base ≤ w.heap.size)
    (h : ∀ v' w', w'.ownsRow base e 1 v' (n + 1) (xs ++ [u]) → w.grownBy w' v.ownBlock → (v'.ownBlock = v.ownBlock ∨ v'.ownBlock = some w.heap.size) → wpList P ops Q rest (a.put o.dst v') w') : wpList P ops Q (o :: rest) a w := by
  obtain ⟨i, hi, hz0, hz1, hz2⟩ := info_parts hinfo
  refine wpList_append_own_at w hgd s x t ho base e i z 1 bytes ht hi hz0 hz1 hz2 hz (by decide) v n xs hs hown ⟨g, 0, none⟩ 1 c [u] hx rfl ?_ ?_ h63 hbytes hbase fun v' w' h2 h3 _ h4 => h v' w' h2 h3 h4
  · intro j u' hj
    match j, hj with
    | 0, hj =>
      obtain rfl : u = u' := by simpa using hj
      exact hu
  · intro u' hu'
    obtain rfl : u' = u := by simpa using hu'
    exact h1

/-- 'append(out, xs...)', one cell an element, out nil or the call's own, xs nil or in memory. -/
theorem append_from_at {P : Program} (w : World) {ops : Array Oper} {rest : List Oper} {o : Oper} {a : Act} {Q : Exit → Act → World → Prop} (hgd : o.guard = none) (s x : Operand) (t : TypeId)
    (ho : o.op = .call { callee := .builtin .append, args := #[s, x], argTypes := #[t, t] }) (base : Nat) (e : TypeId) (z : Value) (bytes : Nat) (ht : P.underlying t = some (.slice e))
    (hinfo : (P.info? e).map (fun i => (i.zero, i.size, i.bytes)) = some (some z, 1, bytes)) (hz : z.cells.size = 1) (v : Value) (n : Nat) (xs : List Value) (hs : a.eval s = v) (hown : w.ownsRow base e 1 v n xs)
    (A : Option Addr) (m c : Nat) (news : List Value) (hx : a.eval x = .slice A m c) (hm : news.length = m) (hnone : A = none → c = 0) (hl : Lies w w.heap.size A news) (h1 : ∀ u ∈ news, u.oneCell' = true) (h63 : n + m ≤ maxLen) (hbytes : (n + m) * bytes ≤ 140737488355328) (hbase : base ≤ w.heap.size)
    (h : ∀ v' w', w'.ownsRow base e 1 v' (n + m) (xs ++ news) → w.grownBy w' v.ownBlock → (v'.ownBlock = v.ownBlock ∨ v'.ownBlock = some w.heap.size) → wpList P ops Q rest (a.put o.dst v') w') : wpList P ops Q (o :: rest) a w := by
  obtain ⟨i, hi, hz0, hz1, hz2⟩ := info_parts hinfo
  cases A with
  | none =>
    have hc := hnone rfl
    have hn : news = [] := by
      by_cases hne : news = []
      · exact hne
      · obtain ⟨b, o', e', _⟩ := hl hne
        cases e'
    subst hn
    have hm0 : m = 0 := hm.symm
    subst hm0 hc
    exact wpList_append_own_none hgd s x t ho base e i 1 ht hi v n xs hs hown hx (h v w (by simpa using hown) ⟨rfl, rfl, rfl, Nat.le_refl _, fun _ _ _ => rfl⟩ (.inl rfl))
  | some ad =>
    refine wpList_append_own_at w hgd s x t ho base e i z 1 bytes ht hi hz0 hz1 hz2 hz (by decide) v n xs hs hown ad m c news hx (by omega) ?_ h1 h63 hbytes hbase fun v' w' h2 h3 _ h4 => h v' w' h2 h3 h4
    intro j u hj
    obtain ⟨b, o', e', _, hc⟩ := hl (by intro e'; subst e'; simp at hj)
    obtain rfl := Option.some.inj e'
    rw [Addr.add_lit]
    exact hc j u hj
end Go.Proofs.YtpkclmfadlkbeaaDoor
