/-
  Bit arithmetic of int, of no program: '&' of numbers that are not negative. Plain mathematics of wavelet matrices and lists, of no program: the matrix of a list, the list of a matrix, ranges of it, sorted. Plain mathematics of Fenwick trees, of no program: where the range of an element begins ('frm'), the next range around it ('aro'), sums ('S'), the tree of a list ('tr') and the list of a tree ('numT'). No condition but what each theorem names.
-/
import Derived.Test.YtpkclmfadlkbeaaJ01
namespace Go.Proofs.Ytpkclmfadlkbeaa.Words
open Go Go.RowKit

theorem bits_and_i64_nat (a b : Nat) (ha : a < 9223372036854775808) (hb : b < 9223372036854775808) : bits .and .i64 (a : Int) (b : Int) = ((a &&& b : Nat) : Int) := by
  have hx : a &&& b ≤ a := Nat.and_le_left
  have h1 : (BitVec.ofInt 64 (a : Int)).toNat = a := by
    rw [BitVec.ofInt_natCast, BitVec.toNat_ofNat]; exact Nat.mod_eq_of_lt (by omega)
  have h2 : (BitVec.ofInt 64 (b : Int)).toNat = b := by
    rw [BitVec.ofInt_natCast, BitVec.toNat_ofNat]; exact Nat.mod_eq_of_lt (by omega)
  show IntKind.i64.wrap ((BitVec.ofInt 64 (a : Int) &&& BitVec.ofInt 64 (b : Int)).toNat : Int) = _
  rw [BitVec.toNat_and, h1, h2, IntKind.wrap_i64]
  omega

/-- A bit of an int that is not negative, as Go asks for it. -/
theorem bit_one_int (x i : Nat) (hx : x < 9223372036854775808) : (bits BinOp.and IntKind.i64 ((x : Int) / 2 ^ i) 1 == 1) = x.testBit i := by
  have e : ((x : Int) / 2 ^ i) = ((x / 2 ^ i : Nat) : Int) := by simp
  have hl : x / 2 ^ i < 9223372036854775808 := Nat.lt_of_le_of_lt (Nat.div_le_self _ _) hx
  have h := bits_and_i64_nat (x / 2 ^ i) 1 hl (by decide)
  rw [e]
  have h2 : bits BinOp.and IntKind.i64 ((x / 2 ^ i : Nat) : Int) 1 = ((x / 2 ^ i &&& 1 : Nat) : Int) := h
  rw [h2, nat_mask1, Nat.testBit_eq_decide_div_mod_eq]
  by_cases h1 : x / 2 ^ i % 2 = 1
  · simp [h1]
  · have h0 : x / 2 ^ i % 2 = 0 := by omega
    simp [h0]
end Go.Proofs.Ytpkclmfadlkbeaa.Words

namespace Go.Proofs.Ytpkclmfadlkbeaa.Words
open Go Go.RowKit

/-- The numbers in the order of the next level. -/
def nxt (p : Nat) (l : List Nat) : List Nat := l.filter (fun x => !x.testBit p) ++ l.filter (fun x => x.testBit p)
/-- The bits of a level. -/
def digs10 (p : Nat) (l : List Nat) : List Bool := l.map fun x => x.testBit p
/-- The levels of the matrix of a list. -/
def levs : Nat → List Nat → List (List Bool)
  | 0, _ => []
  | L + 1, l => digs10 L l :: levs L (nxt L l)
/-- A level as a function. -/
def lf (r : List Bool) : Nat → Bool := fun i => r.getD i false

theorem bit_rowOf (r : List Bool) : bit (rowOf r) = lf r := by
  funext i
  by_cases h : i < 64 * ((r.length + 63) / 64)
  · exact rowOf_bit r i h
  · unfold bit lf
    rw [List.getD_eq_getElem?_getD, List.getD_eq_getElem?_getD, List.getElem?_eq_none (show (rowOf r).length ≤ i / 64 by rw [rowOf_length]; omega), List.getElem?_eq_none (show r.length ≤ i by omega)]
    simp

theorem nxt_length (p : Nat) (l : List Nat) : (nxt p l).length = l.length := by
  unfold nxt
  rw [List.length_append, ← List.countP_eq_length_filter, ← List.countP_eq_length_filter]
  induction l with
  | nil => rfl
  | cons x l ih => rw [List.countP_cons, List.countP_cons, List.length_cons]; cases x.testBit p <;> simp <;> omega
theorem levs_length (L : Nat) : ∀ l, (levs L l).length = L := by
  induction L with
  | zero => intro l; rfl
  | succ L ih => intro l; simp [levs, ih]
theorem levs_each (L : Nat) : ∀ l, ∀ r ∈ levs L l, r.length = l.length := by
  induction L with
  | zero => intro l r h; simp [levs] at h
  | succ L ih =>
    intro l r h
    rw [levs, List.mem_cons] at h
    rcases h with rfl | h
    · simp [digs10]
    · rw [ih _ r h, nxt_length]

theorem tally_count (l : List Nat) (p : Nat → Bool) (i : Nat) : tally (lf (l.map p)) i = (l.take i).countP p := by
  induction i with
  | zero => rfl
  | succ i ih =>
    rw [tally, ih]
    by_cases h : i < l.length
    · rw [List.take_succ_eq_append_getElem h, List.countP_append, List.countP_singleton]
      simp only [lf, List.getD_eq_getElem?_getD, List.getElem?_map, List.getElem?_eq_getElem h, Option.map_some, Option.getD_some]
      cases p l[i] <;> rfl
    · rw [List.take_of_length_le (by omega), List.take_of_length_le (by omega)]
      simp [lf, List.getD_eq_getElem?_getD, List.getElem?_eq_none (show l.length ≤ i by omega)]

theorem filter_at (l : List Nat) (p : Nat → Bool) (i x : Nat) (h : l[i]? = some x) (hp : p x = true) : (l.filter p)[(l.take i).countP p]? = some x := by
  obtain ⟨hi, rfl⟩ := List.getElem?_eq_some_iff.1 h
  have e : l.filter p = (l.take i).filter p ++ (l.drop i).filter p := by rw [← List.filter_append, List.take_append_drop]
  rw [e, List.getElem?_append_right (by rw [List.countP_eq_length_filter]; exact Nat.le_refl _), List.countP_eq_length_filter, Nat.sub_self, List.drop_eq_getElem_cons hi, List.filter_cons_of_pos hp]
  rfl

/-- Where the next level has a number. -/
theorem nxt_at (p : Nat) (l : List Nat) (i x : Nat) (h : l[i]? = some x) : (nxt p l)[tos l.length (lf (digs10 p l)) i]? = some x := by
  obtain ⟨hi, hx⟩ := List.getElem?_eq_some_iff.1 h
  have hb : lf (digs10 p l) i = x.testBit p := by simp [lf, digs10, List.getD_eq_getElem?_getD, List.getElem?_map, h]
  have hn : ∀ m, tally (lf (digs10 p l)) m = (l.take m).countP (fun x => x.testBit p) := fun m => tally_count l _ m
  have hc : ∀ m, (l.take m).countP (fun x => !x.testBit p) + (l.take m).countP (fun x => x.testBit p) = (l.take m).length := by
    intro m
    induction l.take m with
    | nil => rfl
    | cons y t ih => rw [List.countP_cons, List.countP_cons, List.length_cons]; cases y.testBit p <;> simp <;> omega
  have hc1 := hc i
  have hc2 := hc l.length
  rw [List.take_length] at hc2
  rw [List.length_take, Nat.min_eq_left (by omega)] at hc1
  unfold tos zr
  rw [hb, hn, hn, List.take_length]
  unfold nxt
  cases hp : x.testBit p
  · rw [if_neg (by simp)]
    have hf := filter_at l (fun x => !x.testBit p) i x h (by simp [hp])
    rw [show i - (l.take i).countP (fun x => x.testBit p) = (l.take i).countP (fun x => !x.testBit p) by omega]
    rw [List.getElem?_append_left (List.getElem?_eq_some_iff.1 hf).1]
    exact hf
  · rw [if_pos rfl]
    have hf := filter_at l (fun x => x.testBit p) i x h hp
    rw [List.getElem?_append_right (by rw [← List.countP_eq_length_filter]; omega), ← List.countP_eq_length_filter (p := fun x : Nat => !x.testBit p)]
    rw [show l.length - l.countP (fun x => x.testBit p) + (l.take i).countP (fun x => x.testBit p) - l.countP (fun x => !x.testBit p) = (l.take i).countP (fun x => x.testBit p) by omega]
    exact hf

/-- The matrix of a list has its numbers. -/
theorem val_levs (L : Nat) : ∀ (l : List Nat) (i x : Nat), l[i]? = some x → val l.length ((levs L l).map lf) i = x % 2 ^ L := by
  induction L with
  | zero => intro l i x h; simp [levs, val, Nat.mod_one]
  | succ L ih =>
    intro l i x h
    have hx := nxt_at L l i x h
    have hb : lf (digs10 L l) i = x.testBit L := by simp [lf, digs10, List.getD_eq_getElem?_getD, List.getElem?_map, h]
    have e := ih (nxt L l) _ x hx
    rw [nxt_length] at e
    rw [levs, List.map_cons, val, e, hb, List.length_map, levs_length, Nat.pow_succ, Nat.mod_mul, Nat.toNat_testBit, Nat.mul_comm, Nat.add_comm]

/-- The list of a matrix. -/
def lsI (n : Nat) (bs : List (Nat → Bool)) : List Int := (List.range n).map fun i => (val n bs i : Int)
theorem lsI_length (n : Nat) (bs : List (Nat → Bool)) : (lsI n bs).length = n := by simp [lsI]
theorem lsI_at (n : Nat) (bs : List (Nat → Bool)) (i : Nat) (h : i < n) : (lsI n bs)[i]? = some (val n bs i : Int) := by
  unfold lsI; rw [List.getElem?_map, List.getElem?_range h]; rfl
/-- A range of it. -/
def rng (n : Nat) (bs : List (Nat → Bool)) (a b : Nat) : List Int := ((lsI n bs).drop a).take (b - a)
theorem rng_length (n : Nat) (bs : List (Nat → Bool)) (a b : Nat) (hb : b ≤ n) : (rng n bs a b).length = b - a := by
  unfold rng; rw [List.length_take, List.length_drop, lsI_length]; omega

/-- How many are less than x, whatever x. -/
def lessI (n : Nat) (bs : List (Nat → Bool)) (x : Int) (f t : Nat) : Int := num n bs (fun v => decide ((v : Int) < x)) f t
def sameI (n : Nat) (bs : List (Nat → Bool)) (x : Int) (f t : Nat) : Int := num n bs (fun v => decide ((v : Int) = x)) f t
theorem lessI_nat (n : Nat) (bs : List (Nat → Bool)) (x f t : Nat) : lessI n bs (x : Int) f t = less n bs x f t := num_congr n bs _ _ f t fun v _ => by simp
theorem sameI_nat (n : Nat) (bs : List (Nat → Bool)) (x f t : Nat) : sameI n bs (x : Int) f t = same n bs x f t := num_congr n bs _ _ f t fun v _ => by simp; omega
theorem lessI_neg (n : Nat) (bs : List (Nat → Bool)) (x : Int) (h : x < 0) (f t : Nat) : lessI n bs x f t = 0 := num_none n bs _ f t fun v _ => by simp; omega
theorem sameI_neg (n : Nat) (bs : List (Nat → Bool)) (x : Int) (h : x < 0) (f t : Nat) : sameI n bs x f t = 0 := num_none n bs _ f t fun v _ => by simp; omega
theorem lessI_mono (n : Nat) (bs : List (Nat → Bool)) (x y : Int) (h : x ≤ y) (f t : Nat) (hft : f ≤ t) : lessI n bs x f t ≤ lessI n bs y f t :=
  num_imp n bs _ _ (fun v hv => by simp at hv ⊢; omega) f t hft
theorem lessI_succ (n : Nat) (bs : List (Nat → Bool)) (x f t : Nat) : lessI n bs ((x : Int) + 1) f t = less n bs (x + 1) f t := lessI_nat n bs (x + 1) f t

theorem tally_take (n : Nat) (bs : List (Nat → Bool)) (q : Int → Bool) (t : Nat) (h : t ≤ n) : tally (fun i => q (val n bs i : Int)) t = ((lsI n bs).take t).countP q := by
  induction t with
  | zero => rfl
  | succ t ih =>
    have hl : t < (lsI n bs).length := by rw [lsI_length]; omega
    have hg : (lsI n bs)[t] = (val n bs t : Int) := Option.some.inj ((List.getElem?_eq_getElem hl).symm.trans (lsI_at n bs t (by omega)))
    rw [tally, ih (by omega), List.take_succ_eq_append_getElem hl, List.countP_append, List.countP_singleton, hg]
    cases q (val n bs t : Int) <;> rfl
/-- Counting in a range is counting in its list. -/
theorem num_count (n : Nat) (bs : List (Nat → Bool)) (q : Int → Bool) (a b : Nat) (hab : a ≤ b) (hb : b ≤ n) : num n bs (fun v => q (v : Int)) a b = ((rng n bs a b).countP q : Int) := by
  unfold num
  rw [tally_take n bs q b hb, tally_take n bs q a (by omega)]
  have e : (lsI n bs).take b = (lsI n bs).take a ++ rng n bs a b := by
    have := List.take_add (l := lsI n bs) (i := a) (j := b - a)
    rw [show a + (b - a) = b by omega] at this
    exact this
  rw [e, List.countP_append]
  omega

/-- In a sorted list, the element with index k. -/
theorem sorted_kth (s : List Int) (h : s.Pairwise (· ≤ ·)) (k : Nat) (x : Int) (hx : s[k]? = some x) : s.countP (fun z => decide (z < x)) ≤ k ∧ k < s.countP (fun z => decide (z < x + 1)) := by
  obtain ⟨hk, rfl⟩ := List.getElem?_eq_some_iff.1 hx
  have e : s = s.take k ++ s[k] :: s.drop (k + 1) := by rw [← List.drop_eq_getElem_cons hk, List.take_append_drop]
  have hp := h
  rw [e, List.pairwise_append] at hp
  obtain ⟨_, hp2, hp3⟩ := hp
  rw [List.pairwise_cons] at hp2
  have hlen : (s.take k).length = k := by rw [List.length_take]; omega
  generalize s[k] = x at *
  generalize s.take k = t at *
  generalize s.drop (k + 1) = d at *
  subst e
  rw [List.countP_append, List.countP_append]
  constructor
  · have h0 : (x :: d).countP (fun z => decide (z < x)) = 0 := by
      rw [List.countP_eq_zero]
      intro z hz
      rcases List.mem_cons.1 hz with rfl | hz
      · simp
      · have := hp2.1 z hz; simp; omega
    have := List.countP_le_length (p := fun z : Int => decide (z < x)) (l := t)
    omega
  · have h1 : t.countP (fun z => decide (z < x + 1)) = t.length := by
      rw [List.countP_eq_length]
      intro z hz
      have := hp3 z hz x (by simp)
      simp; omega
    rw [h1, List.countP_cons_of_pos (by simp; omega)]
    omega

/-- In the sorted list of a range, the element with index k is what the matrix gives. -/
theorem sorted_kv (n : Nat) (bs : List (Nat → Bool)) (a b k : Nat) (hab : a ≤ b) (hb : b ≤ n) (s : List Int) (hs : s.Pairwise (· ≤ ·)) (hp : s.Perm (rng n bs a b)) (x : Int) (hx : s[k]? = some x) : x = (kv n bs a b k : Int) := by
  obtain ⟨h1, h2⟩ := sorted_kth s hs k x hx
  have hk : k < b - a := by have := (List.getElem?_eq_some_iff.1 hx).1; rw [hp.length_eq, rng_length n bs a b hb] at this; exact this
  have hm : x ∈ rng n bs a b := hp.mem_iff.1 (List.mem_of_getElem? hx)
  obtain ⟨v, rfl⟩ : ∃ v : Nat, x = v := by
    have h2 := List.mem_of_mem_drop (List.mem_of_mem_take hm)
    obtain ⟨i, _, rfl⟩ := List.mem_map.1 h2
    exact ⟨_, rfl⟩
  rw [hp.countP_eq, ← Int.ofNat_le, ← num_count n bs _ a b hab hb] at h1
  rw [hp.countP_eq, ← Int.ofNat_lt, ← num_count n bs _ a b hab hb] at h2
  have g1 : less n bs v a b ≤ k := by rw [← lessI_nat]; exact h1
  have g2 : (k : Int) < less n bs (v + 1) a b := by rw [← lessI_succ]; exact h2
  obtain ⟨f1, f2⟩ := kv_spec n bs a b k hab hk
  exact congrArg _ (kth_unique n bs a b k v _ hab g1 g2 f1 f2)

/-- Where the numbers of a sorted list come to x. -/
theorem sorted_cut (s : List Int) (hs : s.Pairwise (· ≤ ·)) (x : Int) (m : Nat) (hm : m ≤ s.length) (h1 : ∀ j z, j < m → s[j]? = some z → z < x) (h2 : ∀ z, s[m]? = some z → x ≤ z) : s.countP (fun z => decide (z < x)) = m := by
  have e : s.countP (fun z => decide (z < x)) = (s.take m).countP (fun z => decide (z < x)) + (s.drop m).countP (fun z => decide (z < x)) := by rw [← List.countP_append, List.take_append_drop]
  rw [e]
  have t1 : (s.take m).countP (fun z => decide (z < x)) = (s.take m).length := by
    rw [List.countP_eq_length]
    intro z hz
    obtain ⟨j, hj⟩ := List.getElem?_of_mem hz
    rw [List.getElem?_take] at hj
    split at hj
    · rename_i hjm; simpa using h1 j z hjm hj
    · cases hj
  have t2 : (s.drop m).countP (fun z => decide (z < x)) = 0 := by
    rw [List.countP_eq_zero]
    intro z hz
    rcases Nat.lt_or_ge m s.length with hl | hl
    · have hd := List.drop_eq_getElem_cons hl
      have hx := h2 _ (List.getElem?_eq_getElem hl)
      have hp : (s.drop m).Pairwise (· ≤ ·) := hs.sublist (List.drop_sublist _ _)
      rw [hd, List.pairwise_cons] at hp
      rw [hd] at hz
      rcases List.mem_cons.1 hz with rfl | hz
      · simp; omega
      · have := hp.1 z hz; simp; omega
    · rw [List.drop_eq_nil_of_le hl] at hz; cases hz
  rw [t1, t2, List.length_take]
  omega
end Go.Proofs.Ytpkclmfadlkbeaa.Words

namespace Go.Proofs.Ytpkclmfadlkbeaa.Words
open Go Go.RowKit

/-- The first index of the range whose sum is element n: n with its lowest one bits cleared. -/
def frm (n : Nat) : Nat := if n % 2 = 1 then 2 * frm (n / 2) else n
termination_by n
decreasing_by omega
/-- The element with the shortest range around that of element n: n with its lowest zero bit set. -/
def aro (n : Nat) : Nat := if n % 2 = 1 then 2 * aro (n / 2) + 1 else n + 1
termination_by n
decreasing_by omega

theorem frm_even (a : Nat) : frm (2 * a) = 2 * a := by rw [frm, if_neg (by omega)]
theorem frm_odd (a : Nat) : frm (2 * a + 1) = 2 * frm a := by rw [frm, if_pos (by omega), show (2 * a + 1) / 2 = a by omega]
theorem aro_even (a : Nat) : aro (2 * a) = 2 * a + 1 := by rw [aro, if_neg (by omega)]
theorem aro_odd (a : Nat) : aro (2 * a + 1) = 2 * aro a + 1 := by rw [aro, if_pos (by omega), show (2 * a + 1) / 2 = a by omega]

theorem bin_ind {p : Nat → Prop} (h0 : ∀ a, p (2 * a)) (h1 : ∀ a, p a → p (2 * a + 1)) (n : Nat) : p n := by
  induction n using Nat.strongRecOn with
  | _ n ih =>
    rcases Nat.mod_two_eq_zero_or_one n with h | h
    · have := h0 (n / 2)
      rwa [show 2 * (n / 2) = n by omega] at this
    · have := h1 (n / 2) (ih (n / 2) (by omega))
      rwa [show 2 * (n / 2) + 1 = n by omega] at this

theorem frm_le (n : Nat) : frm n ≤ n := by
  induction n using bin_ind with
  | h0 a => rw [frm_even]; omega
  | h1 a ih => rw [frm_odd]; omega
theorem aro_gt (n : Nat) : n < aro n := by
  induction n using bin_ind with
  | h0 a => rw [aro_even]; omega
  | h1 a ih => rw [aro_odd]; omega
theorem aro_le (n : Nat) : aro n ≤ 2 * n + 1 := by
  induction n using bin_ind with
  | h0 a => rw [aro_even]; omega
  | h1 a ih => rw [aro_odd]; omega
theorem aro_mod (n : Nat) : aro n % 2 = 1 := by
  rcases Nat.mod_two_eq_zero_or_one n with h | h
  · rw [show n = 2 * (n / 2) by omega, aro_even]; omega
  · rw [show n = 2 * (n / 2) + 1 by omega, aro_odd]; omega

theorem and_step (x y : Nat) : x &&& y = 2 * (x / 2 &&& y / 2) + x % 2 * (y % 2) := by
  have h1 : (x &&& y) / 2 = x / 2 &&& y / 2 := Nat.and_div_two
  have h2 : (x &&& y) % 2 = x % 2 * (y % 2) := by
    have h : (x &&& y) % 2 = x % 2 &&& y % 2 := by simpa using @Nat.and_mod_two_pow x y 1
    rw [h]
    rcases Nat.mod_two_eq_zero_or_one x with a | a <;> rcases Nat.mod_two_eq_zero_or_one y with b | b <;> rw [a, b] <;> rfl
  omega
theorem or_step (x y : Nat) : x ||| y = 2 * (x / 2 ||| y / 2) + (x % 2 ||| y % 2) := by
  have h1 : (x ||| y) / 2 = x / 2 ||| y / 2 := Nat.or_div_two
  have h2 : (x ||| y) % 2 = x % 2 ||| y % 2 := by simpa using @Nat.or_mod_two_pow x y 1
  omega

theorem and_frm (n : Nat) : (n + 1) &&& n = frm n := by
  induction n using bin_ind with
  | h0 a =>
    rw [frm_even, and_step, show (2 * a + 1) / 2 = a by omega, show 2 * a / 2 = a by omega, show 2 * a % 2 = 0 by omega, Nat.and_self]
    omega
  | h1 a ih =>
    rw [frm_odd, and_step, show (2 * a + 1 + 1) / 2 = a + 1 by omega, show (2 * a + 1) / 2 = a by omega, show (2 * a + 1 + 1) % 2 = 0 by omega, ih]
    omega
theorem or_aro (n : Nat) : n ||| (n + 1) = aro n := by
  induction n using bin_ind with
  | h0 a =>
    rw [aro_even, or_step, show (2 * a + 1) / 2 = a by omega, show 2 * a / 2 = a by omega, show 2 * a % 2 = 0 by omega, show (2 * a + 1) % 2 = 1 by omega, Nat.or_self]
    rfl
  | h1 a ih =>
    rw [aro_odd, or_step, show (2 * a + 1 + 1) / 2 = a + 1 by omega, show (2 * a + 1) / 2 = a by omega, show (2 * a + 1 + 1) % 2 = 0 by omega, show (2 * a + 1) % 2 = 1 by omega, ih]
    rfl

/-- The lowest one bit, found by trying. -/
theorem low_end (k : Nat) : ∀ n : Nat, (n + 1) % 2 ^ k = 0 → (n + 1) % (2 * 2 ^ k) ≠ 0 → n + 1 - 2 ^ k = frm n := by
  induction k with
  | zero =>
    intro n _ h
    rw [Nat.pow_zero] at h ⊢
    rw [show n = 2 * (n / 2) by omega, frm_even]
    omega
  | succ k ih =>
    intro n h1 h2
    have hp := Nat.two_pow_pos k
    rw [Nat.pow_succ, Nat.mul_comm] at h1 ⊢
    rw [Nat.pow_succ, Nat.mul_comm (2 ^ k)] at h2
    have ho : n % 2 = 1 := by
      have := Nat.mod_mod_of_dvd (n + 1) (Nat.dvd_mul_right 2 (2 ^ k))
      rw [h1] at this
      omega
    obtain ⟨a, rfl⟩ : ∃ a, n = 2 * a + 1 := ⟨n / 2, by omega⟩
    rw [show 2 * a + 1 + 1 = 2 * (a + 1) by omega, Nat.mul_mod_mul_left] at h1
    rw [show 2 * a + 1 + 1 = 2 * (a + 1) by omega, Nat.mul_mod_mul_left] at h2
    have h := ih a (by omega) (by omega)
    rw [frm_odd, ← h]
    omega

/-- Element j's range contains index x. -/
def Cov (x j : Nat) : Prop := frm j ≤ x ∧ x ≤ j
instance (x j : Nat) : Decidable (Cov x j) := inferInstanceAs (Decidable (_ ∧ _))

theorem cov_self (j : Nat) : Cov j j := ⟨frm_le j, Nat.le_refl _⟩
theorem cov_even (x a : Nat) : Cov x (2 * a) ↔ x = 2 * a := by unfold Cov; rw [frm_even]; omega
theorem cov_odd (x a : Nat) : Cov x (2 * a + 1) ↔ Cov (x / 2) a := by unfold Cov; rw [frm_odd]; omega
theorem cov_aro (i j : Nat) : Cov (aro i) j ↔ Cov i j ∧ i ≠ j := by
  induction j using bin_ind generalizing i with
  | h0 a =>
    rw [cov_even, cov_even]
    have := aro_mod i
    omega
  | h1 a ih =>
    rw [cov_odd, cov_odd]
    rcases Nat.mod_two_eq_zero_or_one i with h | h
    · obtain ⟨b, rfl⟩ : ∃ b, i = 2 * b := ⟨i / 2, by omega⟩
      rw [aro_even, show (2 * b + 1) / 2 = b by omega, show 2 * b / 2 = b by omega]
      constructor
      · intro h'; exact ⟨h', by omega⟩
      · intro h'; exact h'.1
    · obtain ⟨b, rfl⟩ : ∃ b, i = 2 * b + 1 := ⟨i / 2, by omega⟩
      rw [aro_odd, show (2 * aro b + 1) / 2 = aro b by omega, show (2 * b + 1) / 2 = b by omega, ih]
      constructor
      · rintro ⟨h1, h2⟩; exact ⟨h1, by omega⟩
      · rintro ⟨h1, h2⟩; exact ⟨h1, by omega⟩

/-- The sum of the first n. -/
def S (f : Nat → Int) : Nat → Int
  | 0 => 0
  | n + 1 => S f n + f n
theorem S_succ (f : Nat → Int) (n : Nat) : S f (n + 1) = S f n + f n := rfl
theorem S_congr {f g : Nat → Int} (n : Nat) (h : ∀ c, c < n → f c = g c) : S f n = S g n := by
  induction n with
  | zero => rfl
  | succ n ih => rw [S_succ, S_succ, ih fun c hc => h c (by omega), h n (by omega)]
theorem S_none {f : Nat → Int} (n : Nat) (h : ∀ c, c < n → f c = 0) : S f n = 0 := by
  induction n with
  | zero => rfl
  | succ n ih => rw [S_succ, ih fun c hc => h c (by omega), h n (by omega)]; rfl
theorem S_ext {f : Nat → Int} (m d : Nat) (h : ∀ c, m ≤ c → f c = 0) : S f (m + d) = S f m := by
  induction d with
  | zero => rfl
  | succ d ih => rw [← Nat.add_assoc, S_succ, ih, h _ (by omega)]; omega
/-- Neighbours added up. -/
def half (f : Nat → Int) (a : Nat) : Int := f (2 * a) + f (2 * a + 1)
theorem S_half (f : Nat → Int) (n : Nat) : S f (2 * n) = S (half f) n := by
  induction n with
  | zero => rfl
  | succ n ih =>
    rw [show 2 * (n + 1) = 2 * n + 1 + 1 by omega, S_succ, S_succ, S_succ, ih]
    unfold half
    omega
theorem S_le {f : Nat → Int} (n : Nat) (B : Int) (h : ∀ c, c < n → -B ≤ f c ∧ f c ≤ B) : -((n : Int) * B) ≤ S f n ∧ S f n ≤ (n : Int) * B := by
  induction n with
  | zero => simp [S]
  | succ n ih =>
    have h1 := ih fun c hc => h c (by omega)
    have h2 := h n (by omega)
    have e : ((n + 1 : Nat) : Int) * B = (n : Int) * B + B := by rw [Int.natCast_add, Int.add_mul]; simp
    rw [S_succ, e]
    omega
theorem S_300 {f : Nat → Int} (n : Nat) (B : Int) (hB : 0 ≤ B) (hn : n ≤ 300) (h : ∀ c, c < n → -B ≤ f c ∧ f c ≤ B) : -(300 * B) ≤ S f n ∧ S f n ≤ 300 * B := by
  have h1 := S_le n B h
  have h2 : (n : Int) * B ≤ 300 * B := Int.mul_le_mul_of_nonneg_right (by omega) hB
  omega

/-- The tree of the list f. -/
def tr (f : Nat → Int) (j : Nat) : Int := S f (j + 1) - S f (frm j)
theorem tr_even (f : Nat → Int) (a : Nat) : tr f (2 * a) = f (2 * a) := by unfold tr; rw [frm_even, S_succ]; omega
theorem tr_odd (f : Nat → Int) (a : Nat) : tr f (2 * a + 1) = tr (half f) a := by
  unfold tr
  rw [frm_odd, show 2 * a + 1 + 1 = 2 * (a + 1) by omega, S_half, S_half]
/-- What the elements below i give to element j. -/
def kids (f : Nat → Int) (j i : Nat) : Int := S (fun c => if aro c = j then f c else 0) i

theorem tr_kids (f : Nat → Int) (j : Nat) : tr f j = f j + kids (tr f) j j := by
  induction j using bin_ind generalizing f with
  | h0 a =>
    rw [tr_even]
    unfold kids
    rw [S_none]
    · omega
    · intro c _
      have := aro_mod c
      rw [if_neg (by omega)]
  | h1 a ih =>
    rw [tr_odd, ih]
    unfold kids
    rw [S_succ, S_half, if_pos (aro_even a), tr_even]
    have e : S (half fun c => if aro c = 2 * a + 1 then tr f c else 0) a = S (fun c => if aro c = a then tr (half f) c else 0) a := by
      refine S_congr a fun c hc => ?_
      show (if aro (2 * c) = 2 * a + 1 then tr f (2 * c) else 0) + (if aro (2 * c + 1) = 2 * a + 1 then tr f (2 * c + 1) else 0) = if aro c = a then tr (half f) c else 0
      rw [aro_even, if_neg (by omega), aro_odd, tr_odd]
      by_cases h : aro c = a
      · rw [if_pos (by omega), if_pos h, Int.zero_add]
      · rw [if_neg (by omega), if_neg h]; rfl
    rw [e]
    show f (2 * a) + f (2 * a + 1) + _ = _
    omega

/-- What lies in the row when i elements have been added to the ranges around them. -/
def U (f : Nat → Int) (i j : Nat) : Int := f j + kids (tr f) j i
theorem U_zero (f : Nat → Int) (j : Nat) : U f 0 j = f j := by unfold U kids; simp [S]
theorem U_succ (f : Nat → Int) (i j : Nat) : U f (i + 1) j = U f i j + if aro i = j then tr f i else 0 := by unfold U kids; rw [S_succ]; omega
theorem U_all (f : Nat → Int) (i j : Nat) (h : j ≤ i) : U f i j = tr f j := by
  rw [tr_kids]
  unfold U kids
  rw [show i = j + (i - j) by omega, S_ext]
  intro c hc
  have := aro_gt c
  rw [if_neg (by omega)]
/-- One element more. -/
theorem U_step (f : Nat → Int) (i j : Nat) : U f (i + 1) j = if j = aro i then U f i (aro i) + U f i i else U f i j := by
  rw [U_succ, U_all f i i (Nat.le_refl _)]
  by_cases h : j = aro i
  · subst h; rw [if_pos rfl, if_pos rfl]
  · rw [if_neg (fun e => h e.symm), if_neg h]; omega
/-- And back. -/
theorem U_back (f : Nat → Int) (i j : Nat) : U f i j = if j = aro i then U f (i + 1) (aro i) - U f (i + 1) i else U f (i + 1) j := by
  have h1 := aro_gt i
  rw [U_all f (i + 1) i (by omega)]
  by_cases h : j = aro i
  · subst h; rw [if_pos rfl, U_succ, if_pos rfl]; omega
  · rw [if_neg h, U_succ, if_neg (fun e => h e.symm)]; omega

/-- The list that the tree t represents. -/
def numT (t : Nat → Int) (j : Nat) : Int := t j - kids t j j
theorem num_tr (f : Nat → Int) (j : Nat) : numT (tr f) j = f j := by unfold numT; rw [tr_kids]; omega
theorem kids_congr {f g : Nat → Int} (j : Nat) (h : ∀ c, c < j → f c = g c) : kids f j j = kids g j j := by
  unfold kids
  exact S_congr j fun c hc => by by_cases e : aro c = j <;> simp [e, h c hc]
theorem tr_num (t : Nat → Int) (j : Nat) : tr (numT t) j = t j := by
  induction j using Nat.strongRecOn with
  | _ j ih =>
    rw [tr_kids, kids_congr (g := t) j ih]
    unfold numT
    omega
theorem numT_congr {f g : Nat → Int} (j : Nat) (h : ∀ c, c ≤ j → f c = g c) : numT f j = numT g j := by
  unfold numT
  rw [h j (Nat.le_refl _), kids_congr j fun c hc => h c (by omega)]
theorem tr_congr {f g : Nat → Int} (j : Nat) (h : ∀ c, c ≤ j → f c = g c) : tr f j = tr g j := by
  have := frm_le j
  unfold tr
  rw [S_congr (j + 1) fun c hc => h c (by omega), S_congr (frm j) fun c hc => h c (by omega)]

/-- An element as the document reckons it: the tree's, less the list's elements ahead of it in its range. -/
theorem num_ahead (t : Nat → Int) (j : Nat) : numT t j = t j - (S (numT t) j - S (numT t) (frm j)) := by
  have h := tr_num t j
  unfold tr at h
  rw [S_succ] at h
  omega
/-- A range less: a sum by the tree. -/
theorem S_tree (t : Nat → Int) (j : Nat) : S (numT t) (j + 1) = S (numT t) (frm j) + t j := by
  have h := tr_num t j
  unfold tr at h
  omega

/-- One element of a list changed. -/
def upd (f : Nat → Int) (p : Nat) (v : Int) (j : Nat) : Int := if j = p then v else f j
theorem S_upd (f : Nat → Int) (p : Nat) (v : Int) (n : Nat) : S (upd f p v) n = S f n + if p < n then v - f p else 0 := by
  induction n with
  | zero => simp [S]
  | succ n ih =>
    rw [S_succ, S_succ, ih]
    unfold upd
    by_cases h : n = p
    · subst h; rw [if_neg (by omega), if_pos rfl, if_pos (by omega)]; omega
    · by_cases h2 : p < n
      · rw [if_pos h2, if_neg h, if_pos (by omega)]; omega
      · rw [if_neg h2, if_neg h, if_neg (by omega)]; omega
/-- The tree of the list of which one element was increased. -/
theorem tr_upd (f : Nat → Int) (p : Nat) (d : Int) (j : Nat) : tr (upd f p (f p + d)) j = tr f j + if Cov p j then d else 0 := by
  have hf := frm_le j
  unfold tr
  rw [S_upd, S_upd]
  by_cases h1 : p < frm j
  · rw [if_pos (show p < j + 1 by omega), if_pos h1, if_neg (show ¬ Cov p j by unfold Cov; omega)]; omega
  · by_cases h2 : p < j + 1
    · rw [if_pos h2, if_neg h1, if_pos (show Cov p j by unfold Cov; omega)]; omega
    · rw [if_neg h2, if_neg h1, if_neg (show ¬ Cov p j by unfold Cov; omega)]; omega

/-- While an element's change goes up: what the elements below the place q of the way already have. -/
def went (t : Nat → Int) (p q : Nat) (d : Int) (j : Nat) : Int := t j + if Cov p j ∧ ¬ Cov q j then d else 0
theorem went_start (t : Nat → Int) (p : Nat) (d : Int) (j : Nat) : went t p p d j = t j := by
  unfold went
  rw [if_neg fun h => h.2 h.1]; omega
theorem went_step (t : Nat → Int) (p q : Nat) (d : Int) (hq : Cov p q) (j : Nat) : went t p (aro q) d j = if j = q then went t p q d q + d else went t p q d j := by
  unfold went
  by_cases h : j = q
  · subst h
    rw [if_pos rfl, if_pos ⟨hq, fun h => ((cov_aro _ _).1 h).2 rfl⟩, if_neg fun h => h.2 (cov_self _)]
    omega
  · rw [if_neg h]
    by_cases h1 : Cov p j
    · by_cases h2 : Cov q j
      · rw [if_neg fun h3 => h3.2 ((cov_aro _ _).2 ⟨h2, fun e => h e.symm⟩), if_neg fun h3 => h3.2 h2]
      · rw [if_pos ⟨h1, fun h3 => h2 ((cov_aro _ _).1 h3).1⟩, if_pos ⟨h1, h2⟩]
    · rw [if_neg fun h3 => h1 h3.1, if_neg fun h3 => h1 h3.1]
theorem cov_up (p q : Nat) (h : Cov p q) : Cov p (aro q) := by
  have h1 := (cov_aro q (aro q)).1 (cov_self _)
  unfold Cov at h h1 ⊢
  have := frm_le q
  have h2 : frm (aro q) ≤ frm q := by
    clear h h1
    induction q using bin_ind with
    | h0 a => rw [aro_even, frm_odd, frm_even]; have := frm_le a; omega
    | h1 a ih => rw [aro_odd, frm_odd, frm_odd]; have := ih (frm_le a); omega
  omega
theorem went_end (t : Nat → Int) (p q n : Nat) (d : Int) (hq : n ≤ q) (j : Nat) (hj : j < n) : went t p q d j = t j + if Cov p j then d else 0 := by
  unfold went
  have h : ¬ Cov q j := fun h => by unfold Cov at h; omega
  by_cases h1 : Cov p j
  · rw [if_pos ⟨h1, h⟩, if_pos h1]
  · rw [if_neg fun h3 => h1 h3.1, if_neg h1]

/-- What is greater than no number of a limit is: bounds of all that is added up. -/
theorem num_bound (t : Nat → Int) (n : Nat) (hn : n ≤ 300) (B : Int) (hB : 0 ≤ B) (h : ∀ c, c < n → -B ≤ t c ∧ t c ≤ B) (j : Nat) (hj : j < n) : -(301 * B) ≤ numT t j ∧ numT t j ≤ 301 * B := by
  have h1 := h j hj
  have h2 := S_300 (f := fun c => if aro c = j then t c else 0) j B hB (by omega) fun c hc => by
    have := h c (by omega)
    by_cases e : aro c = j
    · simp only [e, if_true]; exact this
    · simp only [e, if_false]; omega
  unfold numT kids
  omega
theorem U_bound (f : Nat → Int) (n : Nat) (hn : n ≤ 300) (B C : Int) (hB : 0 ≤ B) (hf : ∀ c, c < n → -C ≤ f c ∧ f c ≤ C) (h : ∀ c, c < n → -B ≤ tr f c ∧ tr f c ≤ B) (i j : Nat) (hi : i ≤ n) (hj : j < n) : -(C + 300 * B) ≤ U f i j ∧ U f i j ≤ C + 300 * B := by
  have h1 := hf j hj
  have h2 := S_300 (f := fun c => if aro c = j then tr f c else 0) i B hB (by omega) fun c hc => by
    have := h c (by omega)
    by_cases e : aro c = j
    · simp only [e, if_true]; exact this
    · simp only [e, if_false]; omega
  unfold U kids
  omega
theorem tr_bound (f : Nat → Int) (n : Nat) (hn : n ≤ 300) (C : Int) (hC : 0 ≤ C) (hf : ∀ c, c < n → -C ≤ f c ∧ f c ≤ C) (j : Nat) (hj : j < n) : -(600 * C) ≤ tr f j ∧ tr f j ≤ 600 * C := by
  have h0 := frm_le j
  have h1 := S_300 (f := f) (j + 1) C hC (by omega) fun c hc => hf c (by omega)
  have h2 := S_300 (f := f) (frm j) C hC (by omega) fun c hc => hf c (by omega)
  unfold tr
  omega

/-- The first n values of f, as a list. -/
def vals (f : Nat → Int) (n : Nat) : List Int := (List.range n).map f
theorem vals_length (f : Nat → Int) (n : Nat) : (vals f n).length = n := by simp [vals]
theorem vals_get (f : Nat → Int) (n i : Nat) (h : i < n) : (vals f n)[i]? = some (f i) := by unfold vals; rw [List.getElem?_map, List.getElem?_range h]; rfl
theorem vals_congr {f g : Nat → Int} (n : Nat) (h : ∀ j, j < n → f j = g j) : vals f n = vals g n := by
  unfold vals
  exact List.map_congr_left fun j hj => h j (List.mem_range.1 hj)
theorem vals_succ (f : Nat → Int) (n : Nat) : vals f (n + 1) = vals f n ++ [f n] := by unfold vals; rw [List.range_succ, List.map_append]; rfl
theorem vals_set (f : Nat → Int) (n i : Nat) (v : Int) : (vals f n).set i v = vals (upd f i v) n := by
  apply List.ext_getElem?
  intro j
  by_cases hj : j < n
  · rw [vals_get _ _ _ hj, List.getElem?_set]
    unfold upd
    by_cases e : i = j
    · subst e; rw [if_pos rfl, if_pos (by rw [vals_length]; exact hj), if_pos rfl]
    · rw [if_neg e, if_neg (fun h => e h.symm), vals_get _ _ _ hj]
  · rw [List.getElem?_eq_none (by rw [List.length_set, vals_length]; omega), List.getElem?_eq_none (by rw [vals_length]; omega)]
/-- A list as a function. -/
def at0 (l : List Int) (j : Nat) : Int := l.getD j 0
theorem at0_get (l : List Int) (j : Nat) (x : Int) (h : l[j]? = some x) : at0 l j = x := by unfold at0; rw [List.getD, h]; rfl
theorem at0_some (l : List Int) (j : Nat) (h : j < l.length) : l[j]? = some (at0 l j) := by unfold at0; rw [List.getD, List.getElem?_eq_getElem h]; rfl
theorem at0_vals (f : Nat → Int) (n j : Nat) (h : j < n) : at0 (vals f n) j = f j := at0_get _ _ _ (vals_get f n j h)
theorem vals_at0 (l : List Int) : vals (at0 l) l.length = l := by
  apply List.ext_getElem?
  intro j
  by_cases h : j < l.length
  · rw [vals_get _ _ _ h, at0_some l j h]
  · rw [List.getElem?_eq_none (by rw [vals_length]; omega), List.getElem?_eq_none (by omega)]
end Go.Proofs.Ytpkclmfadlkbeaa.Words
