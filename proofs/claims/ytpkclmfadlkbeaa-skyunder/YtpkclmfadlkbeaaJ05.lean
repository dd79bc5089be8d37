/-
  Bit arithmetic of int, of no program: '&' of numbers that are not negative. Plain mathematics of wavelet matrices and lists, of no program: the matrix of a list, the list of a matrix, ranges of it, sorted. No condition but what each theorem names.
-/
import Derived.Test.YtpkclmfadlkbeaaJ01
namespace Go.Proofs.Ytpkclmfadlkbeaa.Words
open Go Go.RowKit

theorem bits_and_i64_nat (a b : Nat) (ha : a < 9223372036854775808) (hb : b < 9223372036854775808) : bits .and .i64 (a : Int) (b : Int) = ((a &&& b : Nat) : Int) := by
  have hx : a &&& b ≤ a := Nat.and_le_left
  have h1 : (BitVec.ofInt 64 (a : Int)).toNat = a := by
    rw [BitVec.ofInt_natCast, BitVec.toNat_ofNat]; exact Nat.mod_eq_of_lt (by omega)
  have h2 : (BitVec.ofInt 64 (b : Int)).toNat = b := by
    rw [BitVec.ofInt_natCast, BitVec.toNat_ofNat]; exact Nat.mod_eq_of_lt (by omega)
  show IntKind.i64.wrap ((BitVec.ofInt 64 (a : Int) &&& BitVec.ofInt 64 (b : Int)).toNat : Int) = _
  rw [BitVec.toNat_and, h1, h2, IntKind.wrap_i64]
  omega

/-- A bit of an int that is not negative, as Go asks for it. -/
theorem bit_one_int (x i : Nat) (hx : x < 9223372036854775808) : (bits BinOp.and IntKind.i64 ((x : Int) / 2 ^ i) 1 == 1) = x.testBit i := by
  have e : ((x : Int) / 2 ^ i) = ((x / 2 ^ i : Nat) : Int) := by simp
  have hl : x / 2 ^ i < 9223372036854775808 := Nat.lt_of_le_of_lt (Nat.div_le_self _ _) hx
  have h := bits_and_i64_nat (x / 2 ^ i) 1 hl (by decide)
  rw [e]
  have h2 : bits BinOp.and IntKind.i64 ((x / 2 ^ i : Nat) : Int) 1 = ((x / 2 ^ i &&& 1 : Nat) : Int) := h
  rw [h2, nat_mask1, Nat.testBit_eq_decide_div_mod_eq]
  by_cases h1 : x / 2 ^ i % 2 = 1
  · simp [h1]
  · have h0 : x / 2 ^ i % 2 = 0 := by omega
    simp [h0]
end Go.Proofs.Ytpkclmfadlkbeaa.Words

namespace Go.Proofs.Ytpkclmfadlkbeaa.Words
open Go Go.RowKit

/-- The numbers in the order of the next level. -/
def nxt (p : Nat) (l : List Nat) : List Nat := l.filter (fun x => !x.testBit p) ++ l.filter (fun x => x.testBit p)
/-- The bits of a level. -/
def digs10 (p : Nat) (l : List Nat) : List Bool := l.map fun x => x.testBit p
/-- The levels of the matrix of a list. -/
def levs : Nat → List Nat → List (List Bool)
  | 0, _ => []
  | L + 1, l => digs10 L l :: levs L (nxt L l)
/-- A level as a function. -/
def lf (r : List Bool) : Nat → Bool := fun i => r.getD i false

theorem bit_rowOf (r : List Bool) : bit (rowOf r) = lf r := by
  funext i
  by_cases h : i < 64 * ((r.length + 63) / 64)
  · exact rowOf_bit r i h
  · unfold bit lf
    rw [List.getD_eq_getElem?_getD, List.getD_eq_getElem?_getD, List.getElem?_eq_none (show (rowOf r).length ≤ i / 64 by rw [rowOf_length]; omega), List.getElem?_eq_none (show r.length ≤ i by omega)]
    simp

theorem nxt_length (p : Nat) (l : List Nat) : (nxt p l).length = l.length := by
  unfold nxt
  rw [List.length_append, ← List.countP_eq_length_filter, ← List.countP_eq_length_filter]
  induction l with
  | nil => rfl
  | cons x l ih => rw [List.countP_cons, List.countP_cons, List.length_cons]; cases x.testBit p <;> simp <;> omega
theorem levs_length (L : Nat) : ∀ l, (levs L l).length = L := by
  induction L with
  | zero => intro l; rfl
  | succ L ih => intro l; simp [levs, ih]
theorem levs_each (L : Nat) : ∀ l, ∀ r ∈ levs L l, r.length = l.length := by
  induction L with
  | zero => intro l r h; simp [levs] at h
  | succ L ih =>
    intro l r h
    rw [levs, List.mem_cons] at h
    rcases h with rfl | h
    · simp [digs10]
    · rw [ih _ r h, nxt_length]

theorem tally_count (l : List Nat) (p : Nat → Bool) (i : Nat) : tally (lf (l.map p)) i = (l.take i).countP p := by
  induction i with
  | zero => rfl
  | succ i ih =>
    rw [tally, ih]
    by_cases h : i < l.length
    · rw [List.take_succ_eq_append_getElem h, List.countP_append, List.countP_singleton]
      simp only [lf, List.getD_eq_getElem?_getD, List.getElem?_map, List.getElem?_eq_getElem h, Option.map_some, Option.getD_some]
      cases p l[i] <;> rfl
    · rw [List.take_of_length_le (by omega), List.take_of_length_le (by omega)]
      simp [lf, List.getD_eq_getElem?_getD, List.getElem?_eq_none (show l.length ≤ i by omega)]

theorem filter_at (l : List Nat) (p : Nat → Bool) (i x : Nat) (h : l[i]? = some x) (hp : p x = true) : (l.filter p)[(l.take i).countP p]? = some x := by
  obtain ⟨hi, rfl⟩ := List.getElem?_eq_some_iff.1 h
  have e : l.filter p = (l.take i).filter p ++ (l.drop i).filter p := by rw [← List.filter_append, List.take_append_drop]
  rw [e, List.getElem?_append_right (by rw [List.countP_eq_length_filter]; exact Nat.le_refl _), List.countP_eq_length_filter, Nat.sub_self, List.drop_eq_getElem_cons hi, List.filter_cons_of_pos hp]
  rfl

/-- Where the next level has a number. -/
theorem nxt_at (p : Nat) (l : List Nat) (i x : Nat) (h : l[i]? = some x) : (nxt p l)[tos l.length (lf (digs10 p l)) i]? = some x := by
  obtain ⟨hi, hx⟩ := List.getElem?_eq_some_iff.1 h
  have hb : lf (digs10 p l) i = x.testBit p := by simp [lf, digs10, List.getD_eq_getElem?_getD, List.getElem?_map, h]
  have hn : ∀ m, tally (lf (digs10 p l)) m = (l.take m).countP (fun x => x.testBit p) := fun m => tally_count l _ m
  have hc : ∀ m, (l.take m).countP (fun x => !x.testBit p) + (l.take m).countP (fun x => x.testBit p) = (l.take m).length := by
    intro m
    induction l.take m with
    | nil => rfl
    | cons y t ih => rw [List.countP_cons, List.countP_cons, List.length_cons]; cases y.testBit p <;> simp <;> omega
  have hc1 := hc i
  have hc2 := hc l.length
  rw [List.take_length] at hc2
  rw [List.length_take, Nat.min_eq_left (by omega)] at hc1
  unfold tos zr
  rw [hb, hn, hn, List.take_length]
  unfold nxt
  cases hp : x.testBit p
  · rw [if_neg (by simp)]
    have hf := filter_at l (fun x => !x.testBit p) i x h (by simp [hp])
    rw [show i - (l.take i).countP (fun x => x.testBit p) = (l.take i).countP (fun x => !x.testBit p) by omega]
    rw [List.getElem?_append_left (List.getElem?_eq_some_iff.1 hf).1]
    exact hf
  · rw [if_pos rfl]
    have hf := filter_at l (fun x => x.testBit p) i x h hp
    rw [List.getElem?_append_right (by rw [← List.countP_eq_length_filter]; omega), ← List.countP_eq_length_filter (p := fun x : Nat => !x.testBit p)]
    rw [show l.length - l.countP (fun x => x.testBit p) + (l.take i).countP (fun x => x.testBit p) - l.countP (fun x => !x.testBit p) = (l.take i).countP (fun x => x.testBit p) by omega]
    exact hf

/-- The matrix of a list has its numbers. -/
theorem val_levs (L : Nat) : ∀ (l : List Nat) (i x : Nat), l[i]? = some x → val l.length ((levs L l).map lf) i = x % 2 ^ L := by
  induction L with
  | zero => intro l i x h; simp [levs, val, Nat.mod_one]
  | succ L ih =>
    intro l i x h
    have hx := nxt_at L l i x h
    have hb : lf (digs10 L l) i = x.testBit L := by simp [lf, digs10, List.getD_eq_getElem?_getD, List.getElem?_map, h]
    have e := ih (nxt L l) _ x hx
    rw [nxt_length] at e
    rw [levs, List.map_cons, val, e, hb, List.length_map, levs_length, Nat.pow_succ, Nat.mod_mul, Nat.toNat_testBit, Nat.mul_comm, Nat.add_comm]

/-- The list of a matrix. -/
def lsI (n : Nat) (bs : List (Nat → Bool)) : List Int := (List.range n).map fun i => (val n bs i : Int)
theorem lsI_length (n : Nat) (bs : List (Nat → Bool)) : (lsI n bs).length = n := by simp [lsI]
theorem lsI_at (n : Nat) (bs : List (Nat → Bool)) (i : Nat) (h : i < n) : (lsI n bs)[i]? = some (val n bs i : Int) := by
  unfold lsI; rw [List.getElem?_map, List.getElem?_range h]; rfl
/-- A range of it. -/
def rng (n : Nat) (bs : List (Nat → Bool)) (a b : Nat) : List Int := ((lsI n bs).drop a).take (b - a)
theorem rng_length (n : Nat) (bs : List (Nat → Bool)) (a b : Nat) (hb : b ≤ n) : (rng n bs a b).length = b - a := by
  unfold rng; rw [List.length_take, List.length_drop, lsI_length]; omega

/-- How many are less than x, whatever x. -/
def lessI (n : Nat) (bs : List (Nat → Bool)) (x : Int) (f t : Nat) : Int := num n bs (fun v => decide ((v : Int) < x)) f t
def sameI (n : Nat) (bs : List (Nat → Bool)) (x : Int) (f t : Nat) : Int := num n bs (fun v => decide ((v : Int) = x)) f t
theorem lessI_nat (n : Nat) (bs : List (Nat → Bool)) (x f t : Nat) : lessI n bs (x : Int) f t = less n bs x f t := num_congr n bs _ _ f t fun v _ => by simp
theorem sameI_nat (n : Nat) (bs : List (Nat → Bool)) (x f t : Nat) : sameI n bs (x : Int) f t = same n bs x f t := num_congr n bs _ _ f t fun v _ => by simp; omega
theorem lessI_neg (n : Nat) (bs : List (Nat → Bool)) (x : Int) (h : x < 0) (f t : Nat) : lessI n bs x f t = 0 := num_none n bs _ f t fun v _ => by simp; omega
theorem sameI_neg (n : Nat) (bs : List (Nat → Bool)) (x : Int) (h : x < 0) (f t : Nat) : sameI n bs x f t = 0 := num_none n bs _ f t fun v _ => by simp; omega
theorem lessI_mono (n : Nat) (bs : List (Nat → Bool)) (x y : Int) (h : x ≤ y) (f t : Nat) (hft : f ≤ t) : lessI n bs x f t ≤ lessI n bs y f t :=
  num_imp n bs _ _ (fun v hv => by simp at hv ⊢; omega) f t hft
theorem lessI_succ (n : Nat) (bs : List (Nat → Bool)) (x f t : Nat) : lessI n bs ((x : Int) + 1) f t = less n bs (x + 1) f t := lessI_nat n bs (x + 1) f t

theorem tally_take (n : Nat) (bs : List (Nat → Bool)) (q : Int → Bool) (t : Nat) (h : t ≤ n) : tally (fun i => q (val n bs i : Int)) t = ((lsI n bs).take t).countP q := by
  induction t with
  | zero => rfl
  | succ t ih =>
    have hl : t < (lsI n bs).length := by rw [lsI_length]; omega
    have hg : (lsI n bs)[t] = (val n bs t : Int) := Option.some.inj ((List.getElem?_eq_getElem hl).symm.trans (lsI_at n bs t (by omega)))
    rw [tally, ih (by omega), List.take_succ_eq_append_getElem hl, List.countP_append, List.countP_singleton, hg]
    cases q (val n bs t : Int) <;> rfl
/-- Counting in a range is counting in its list. -/
theorem num_count (n : Nat) (bs : List (Nat → Bool)) (q : Int → Bool) (a b : Nat) (hab : a ≤ b) (hb : b ≤ n) : num n bs (fun v => q (v : Int)) a b = ((rng n bs a b).countP q : Int) := by
  unfold num
  rw [tally_take n bs q b hb, tally_take n bs q a (by omega)]
  have e : (lsI n bs).take b = (lsI n bs).take a ++ rng n bs a b := by
    have := List.take_add (l := lsI n bs) (i := a) (j := b - a)
    rw [show a + (b - a) = b by omega] at this
    exact this
  rw [e, List.countP_append]
  omega

/-- In a sorted list, the element with index k. -/
theorem sorted_kth (s : List Int) (h : s.Pairwise (· ≤ ·)) (k : Nat) (x : Int) (hx : s[k]? = some x) : s.countP (fun z => decide (z < x)) ≤ k ∧ k < s.countP (fun z => decide (z < x + 1)) := by
  obtain ⟨hk, rfl⟩ := List.getElem?_eq_some_iff.1 hx
  have e : s = s.take k ++ s[k] :: s.drop (k + 1) := by rw [← List.drop_eq_getElem_cons hk, List.take_append_drop]
  have hp := h
  rw [e, List.pairwise_append] at hp
  obtain ⟨_, hp2, hp3⟩ := hp
  rw [List.pairwise_cons] at hp2
  have hlen : (s.take k).length = k := by rw [List.length_take]; omega
  generalize s[k] = x at *
  generalize s.take k = t at *
  generalize s.drop (k + 1) = d at *
  subst e
  rw [List.countP_append, List.countP_append]
  constructor
  · have h0 : (x :: d).countP (fun z => decide (z < x)) = 0 := by
      rw [List.countP_eq_zero]
      intro z hz
      rcases List.mem_cons.1 hz with rfl | hz
      · simp
      · have := hp2.1 z hz; simp; omega
    have := List.countP_le_length (p := fun z : Int => decide (z < x)) (l := t)
    omega
  · have h1 : t.countP (fun z => decide (z < x + 1)) = t.length := by
      rw [List.countP_eq_length]
      intro z hz
      have := hp3 z hz x (by simp)
      simp; omega
    rw [h1, List.countP_cons_of_pos (by simp; omega)]
    omega

/-- In the sorted list of a range, the element with index k is what the matrix gives. -/
theorem sorted_kv (n : Nat) (bs : List (Nat → Bool)) (a b k : Nat) (hab : a ≤ b) (hb : b ≤ n) (s : List Int) (hs : s.Pairwise (· ≤ ·)) (hp : s.Perm (rng n bs a b)) (x : Int) (hx : s[k]? = some x) : x = (kv n bs a b k : Int) := by
  obtain ⟨h1, h2⟩ := sorted_kth s hs k x hx
  have hk : k < b - a := by have := (List.getElem?_eq_some_iff.1 hx).1; rw [hp.length_eq, rng_length n bs a b hb] at this; exact this
  have hm : x ∈ rng n bs a b := hp.mem_iff.1 (List.mem_of_getElem? hx)
  obtain ⟨v, rfl⟩ : ∃ v : Nat, x = v := by
    have h2 := List.mem_of_mem_drop (List.mem_of_mem_take hm)
    obtain ⟨i, _, rfl⟩ := List.mem_map.1 h2
    exact ⟨_, rfl⟩
  rw [hp.countP_eq, ← Int.ofNat_le, ← num_count n bs _ a b hab hb] at h1
  rw [hp.countP_eq, ← Int.ofNat_lt, ← num_count n bs _ a b hab hb] at h2
  have g1 : less n bs v a b ≤ k := by rw [← lessI_nat]; exact h1
  have g2 : (k : Int) < less n bs (v + 1) a b := by rw [← lessI_succ]; exact h2
  obtain ⟨f1, f2⟩ := kv_spec n bs a b k hab hk
  exact congrArg _ (kth_unique n bs a b k v _ hab g1 g2 f1 f2)

/-- Where the numbers of a sorted list come to x. -/
theorem sorted_cut (s : List Int) (hs : s.Pairwise (· ≤ ·)) (x : Int) (m : Nat) (hm : m ≤ s.length) (h1 : ∀ j z, j < m → s[j]? = some z → z < x) (h2 : ∀ z, s[m]? = some z → x ≤ z) : s.countP (fun z => decide (z < x)) = m := by
  have e : s.countP (fun z => decide (z < x)) = (s.take m).countP (fun z => decide (z < x)) + (s.drop m).countP (fun z => decide (z < x)) := by rw [← List.countP_append, List.take_append_drop]
  rw [e]
  have t1 : (s.take m).countP (fun z => decide (z < x)) = (s.take m).length := by
    rw [List.countP_eq_length]
    intro z hz
    obtain ⟨j, hj⟩ := List.getElem?_of_mem hz
    rw [List.getElem?_take] at hj
    split at hj
    · rename_i hjm; simpa using h1 j z hjm hj
    · cases hj
  have t2 : (s.drop m).countP (fun z => decide (z < x)) = 0 := by
    rw [List.countP_eq_zero]
    intro z hz
    rcases Nat.lt_or_ge m s.length with hl | hl
    · have hd := List.drop_eq_getElem_cons hl
      have hx := h2 _ (List.getElem?_eq_getElem hl)
      have hp : (s.drop m).Pairwise (· ≤ ·) := hs.sublist (List.drop_sublist _ _)
      rw [hd, List.pairwise_cons] at hp
      rw [hd] at hz
      rcases List.mem_cons.1 hz with rfl | hz
      · simp; omega
      · have := hp.1 z hz; simp; omega
    · rw [List.drop_eq_nil_of_le hl] at hz; cases hz
  rw [t1, t2, List.length_take]
  omega
end Go.Proofs.Ytpkclmfadlkbeaa.Words
