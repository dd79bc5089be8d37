/-
  Plain mathematics: how many numbers behind a place are less, swaps, factorials, the number of a permutation in the order of all. No condition but what each theorem names.
-/
import Derived.Test.YtehmngecpipebaaPerms
namespace Go.Proofs.Ytehmngecpipebaa

def fact : Nat → Nat
  | 0 => 1
  | n + 1 => (n + 1) * fact n
theorem fact_pos : ∀ n, 0 < fact n
  | 0 => by decide
  | n + 1 => Nat.mul_pos (Nat.succ_pos n) (fact_pos n)
theorem fact_mono {a b : Nat} (h : a ≤ b) : fact a ≤ fact b := by
  induction b with
  | zero => have : a = 0 := by omega
            rw [this]; exact Nat.le_refl _
  | succ b ih =>
    by_cases e : a = b + 1
    · rw [e]; exact Nat.le_refl _
    · have h1 := ih (by omega)
      have h2 : 1 * fact b ≤ (b + 1) * fact b := Nat.mul_le_mul_right _ (by omega)
      rw [Nat.one_mul] at h2
      exact Nat.le_trans h1 h2
theorem fact_20 : fact 20 = 2432902008176640000 := by decide +kernel

/-- How many of a list are less than a number. -/
def cnt (x : Nat) (l : List Nat) : Nat := l.countP fun y => decide (y < x)
theorem cnt_le (x : Nat) (l : List Nat) : cnt x l ≤ l.length := List.countP_le_length
theorem cnt_cons (x y : Nat) (l : List Nat) : cnt x (y :: l) = cnt x l + if y < x then 1 else 0 := by
  unfold cnt
  rw [List.countP_cons]
  simp
theorem cnt_append (x : Nat) (a b : List Nat) : cnt x (a ++ b) = cnt x a + cnt x b := by unfold cnt; rw [List.countP_append]
theorem cnt_perm {x : Nat} {a b : List Nat} (h : a.Perm b) : cnt x a = cnt x b := h.countP_eq _
theorem cnt_mono {x y : Nat} (h : x ≤ y) (l : List Nat) : cnt x l ≤ cnt y l := List.countP_mono_left fun z _ hz => by simp only [decide_eq_true_eq] at *; omega
theorem cnt_lt {x y : Nat} (h : x < y) {l : List Nat} (hx : x ∈ l) : cnt x l < cnt y l := by
  induction l with
  | nil => cases hx
  | cons z l ih =>
    rw [cnt_cons, cnt_cons]
    rcases List.mem_cons.1 hx with e | e
    · subst e
      have := cnt_mono (Nat.le_of_lt h) l
      rw [if_neg (by omega), if_pos h]
      omega
    · have := ih e
      by_cases h1 : z < x
      · rw [if_pos h1, if_pos (by omega)]; omega
      · rw [if_neg h1]; omega

/-- The swaps of a list: pairs of which the later is less. -/
def swp : List Nat → Nat
  | [] => 0
  | x :: r => cnt x r + swp r
theorem swp_drop {p : List Nat} {i : Nat} (hi : i < p.length) : swp (p.drop i) = cnt (st p i) (p.drop (i + 1)) + swp (p.drop (i + 1)) := by
  have e : p[i] = st p i := by simp [st, hi]
  rw [List.drop_eq_getElem_cons hi, swp, e]
theorem swp_le : ∀ p : List Nat, swp p ≤ p.length * p.length
  | [] => by simp [swp]
  | x :: r => by
    have h1 := cnt_le x r
    have h2 := swp_le r
    rw [swp, List.length_cons, Nat.add_mul, Nat.mul_add]
    omega
theorem cnt_take_step {p : List Nat} {x k : Nat} (hk : k < p.length) : cnt x (p.take (k + 1)) = cnt x (p.take k) + if st p k < x then 1 else 0 := by
  rw [List.take_add_one, st_get hk, cnt_append]
  show _ + cnt x [st p k] = _
  rw [cnt_cons]
  simp [cnt]
/-- The part of a list behind place i, its first k numbers. -/
theorem cnt_mid_step {p : List Nat} {x i k : Nat} (hk : i + k < p.length) : cnt x ((p.drop i).take (k + 1)) = cnt x ((p.drop i).take k) + if st p (i + k) < x then 1 else 0 := by
  have h : k < (p.drop i).length := by rw [List.length_drop]; omega
  rw [cnt_take_step h]
  have e : st (p.drop i) k = st p (i + k) := st_of (by rw [List.getElem?_drop, st_get hk])
  rw [e]
theorem cnt_mid_le (x : Nat) (p : List Nat) (i k : Nat) : cnt x ((p.drop i).take k) ≤ p.length := by
  have := cnt_le x ((p.drop i).take k)
  rw [List.length_take, List.length_drop] at this
  omega

/-- The number of a list of different numbers, in the order of all its orders. -/
def numL : List Nat → Nat
  | [] => 0
  | x :: r => cnt x r * fact r.length + numL r
theorem numL_lt : ∀ p : List Nat, numL p < fact p.length
  | [] => by decide
  | x :: r => by
    have h1 := cnt_le x r
    have h2 := numL_lt r
    have h3 : cnt x r * fact r.length ≤ r.length * fact r.length := Nat.mul_le_mul_right _ h1
    rw [numL, List.length_cons, fact, Nat.add_mul, Nat.one_mul]
    omega
theorem numL_drop {p : List Nat} {i : Nat} (hi : i < p.length) : numL (p.drop i) = cnt (st p i) (p.drop (i + 1)) * fact (p.length - 1 - i) + numL (p.drop (i + 1)) := by
  have e : p[i] = st p i := by simp [st, hi]
  rw [List.drop_eq_getElem_cons hi, numL, e, List.length_drop, show p.length - (i + 1) = p.length - 1 - i by omega]
theorem numL_drop_le (p : List Nat) : ∀ i, i ≤ p.length → numL (p.drop i) ≤ numL p
  | 0, _ => by simp
  | i + 1, h => by
    have h1 := numL_drop_le p i (by omega)
    have h2 := numL_drop (p := p) (i := i) (by omega)
    omega

/-- The numbers below x that do not stand ahead of place i are those behind it that are less than x, if x stands there. -/
theorem free_count {p : List Nat} (h : PermL p) {i : Nat} (hi : i < p.length) : (List.range (st p i)).countP (fun y => decide (y ∉ p.take i)) = cnt (st p i) (p.drop (i + 1)) := by
  unfold cnt
  rw [List.countP_eq_length_filter, List.countP_eq_length_filter]
  refine List.Perm.length_eq ?_
  have hnd : (p.drop (i + 1)).Nodup := List.Nodup.sublist (List.drop_sublist _ _) h.nd
  refine (List.perm_ext_iff_of_nodup (List.Pairwise.filter _ List.nodup_range) (List.Pairwise.filter _ hnd)).2 fun y => ?_
  have hsp : p = p.take i ++ st p i :: p.drop (i + 1) := by
    have e : p[i] = st p i := by simp [st, hi]
    conv => lhs; rw [← List.take_append_drop i p, List.drop_eq_getElem_cons hi, e]
  have hnd2 := h.nd
  rw [hsp] at hnd2
  have hxl := h.st_lt hi
  simp only [List.mem_filter, List.mem_range, decide_eq_true_eq]
  constructor
  · rintro ⟨h1, h2⟩
    have hm := h.mem (x := y) (by omega)
    rw [hsp] at hm
    rcases List.mem_append.1 hm with h3 | h3
    · exact absurd h3 h2
    · rcases List.mem_cons.1 h3 with h4 | h4
      · omega
      · exact ⟨h4, h1⟩
  · rintro ⟨h1, h2⟩
    refine ⟨h2, fun h3 => ?_⟩
    have := (List.nodup_append.1 hnd2).2.2 y h3 y (List.mem_cons_of_mem _ h1)
    exact this rfl
theorem range_count_step (q : Nat → Bool) (y : Nat) : (List.range (y + 1)).countP q = (List.range y).countP q + if q y then 1 else 0 := by
  rw [List.range_succ, List.countP_append]
  simp [List.countP_cons]

/-- The order with a number, out of the numbers that are left. -/
def ordL : Nat → List Nat → Nat → List Nat
  | 0, _, _ => []
  | k + 1, left, N => st left (N / fact k) :: ordL k (left.eraseIdx (N / fact k)) (N % fact k)
theorem ordL_length : ∀ (k : Nat) (left : List Nat) (N : Nat), (ordL k left N).length = k
  | 0, _, _ => rfl
  | k + 1, left, N => by rw [ordL, List.length_cons, ordL_length]
theorem div_fact {k N : Nat} (h : N < fact (k + 1)) : N / fact k < k + 1 := by
  rw [Nat.div_lt_iff_lt_mul (fact_pos k)]
  exact h
theorem ordL_perm : ∀ (k : Nat) (left : List Nat) (N : Nat), left.length = k → N < fact k → (ordL k left N).Perm left
  | 0, left, N, h, _ => by rw [List.eq_nil_of_length_eq_zero h]; exact .refl _
  | k + 1, left, N, h, hN => by
    have hd := div_fact hN
    have hm := Nat.mod_lt N (fact_pos k)
    have ih := ordL_perm k (left.eraseIdx (N / fact k)) (N % fact k) (by rw [List.length_eraseIdx, if_pos (by omega)]; omega) hm
    rw [ordL]
    refine (ih.cons _).trans ?_
    generalize N / fact k = j at *
    have hj : j < left.length := by omega
    have e : left[j] = st left j := by simp [st, hj]
    rw [List.eraseIdx_eq_take_drop_succ]
    conv => rhs; rw [← List.take_append_drop j left, List.drop_eq_getElem_cons hj, e]
    exact List.perm_middle.symm
/-- In a row that rises as many numbers are less as stand ahead. -/
theorem cnt_sorted : ∀ (left : List Nat) (j : Nat), left.Pairwise (· < ·) → j < left.length → cnt (st left j) left = j
  | [], j, _, h => by simp at h
  | x :: r, 0, hp, _ => by
    rw [List.pairwise_cons] at hp
    show cnt x (x :: r) = 0
    rw [cnt_cons, if_neg (by omega)]
    unfold cnt
    rw [List.countP_eq_zero.2 fun y hy => by have := hp.1 y hy; simp; omega]
  | x :: r, j + 1, hp, h => by
    rw [List.pairwise_cons] at hp
    have hj : j < r.length := by simpa using h
    show cnt (st r j) (x :: r) = j + 1
    have := hp.1 _ (st_mem hj)
    rw [cnt_cons, cnt_sorted r j hp.2 hj, if_pos this]
theorem eraseIdx_sorted {left : List Nat} (h : left.Pairwise (· < ·)) (j : Nat) : (left.eraseIdx j).Pairwise (· < ·) := h.sublist (List.eraseIdx_sublist _ _)
theorem cnt_erase {left : List Nat} {j : Nat} (hj : j < left.length) (hp : left.Pairwise (· < ·)) : cnt (st left j) (left.eraseIdx j) = j := by
  have h := cnt_sorted left j hp hj
  have e : left[j] = st left j := by simp [st, hj]
  have h2 : left.Perm (st left j :: left.eraseIdx j) := by
    rw [List.eraseIdx_eq_take_drop_succ]
    conv => lhs; rw [← List.take_append_drop j left, List.drop_eq_getElem_cons hj, e]
    exact List.perm_middle
  have h3 := cnt_perm (x := st left j) h2
  rw [cnt_cons, if_neg (by omega), h] at h3
  omega
theorem num_ord : ∀ (k : Nat) (left : List Nat) (N : Nat), left.length = k → N < fact k → left.Pairwise (· < ·) → numL (ordL k left N) = N
  | 0, left, N, h, hN, _ => by
    have : N = 0 := by rw [show fact 0 = 1 from rfl] at hN; omega
    rw [this]; rfl
  | k + 1, left, N, h, hN, hp => by
    have hd := div_fact hN
    have hm := Nat.mod_lt N (fact_pos k)
    have hl : (left.eraseIdx (N / fact k)).length = k := by rw [List.length_eraseIdx, if_pos (by omega)]; omega
    rw [ordL, numL, ordL_length, num_ord k _ _ hl hm (eraseIdx_sorted hp _), cnt_perm (ordL_perm k _ _ hl hm), cnt_erase (by omega) hp, Nat.mul_comm]
    exact Nat.div_add_mod _ _
theorem sorted_place {left : List Nat} (hp : left.Pairwise (· < ·)) {x : Nat} (hx : x ∈ left) : st left (cnt x left) = x := by
  obtain ⟨j, hj, e⟩ := List.mem_iff_getElem.1 hx
  have e1 : left[j] = st left j := by simp [st, hj]
  have h := cnt_sorted left j hp hj
  rw [← e1, e] at h
  rw [h, ← e1, e]
theorem ord_num : ∀ (p left : List Nat), p.Perm left → left.Pairwise (· < ·) → ordL p.length left (numL p) = p
  | [], left, h, _ => rfl
  | x :: r, left, h, hp => by
    have hx : x ∈ left := h.mem_iff.1 (List.mem_cons_self ..)
    have hn := numL_lt r
    have hc : (cnt x r * fact r.length + numL r) / fact r.length = cnt x r := by
      rw [Nat.mul_comm, Nat.mul_add_div (fact_pos _), Nat.div_eq_of_lt hn, Nat.add_zero]
    have hm : (cnt x r * fact r.length + numL r) % fact r.length = numL r := by
      rw [Nat.mul_comm, Nat.mul_add_mod, Nat.mod_eq_of_lt hn]
    have hcl : cnt x left = cnt x r := by
      rw [← cnt_perm h, cnt_cons, if_neg (by omega)]
      omega
    have hs := sorted_place hp hx
    rw [hcl] at hs
    have hj : cnt x r < left.length := by
      have h1 := cnt_le x r
      have h2 := h.length_eq
      rw [List.length_cons] at h2
      omega
    have hrest : r.Perm (left.eraseIdx (cnt x r)) := by
      have e : left[cnt x r] = st left (cnt x r) := by simp [st, hj]
      have h2 : left.Perm (x :: left.eraseIdx (cnt x r)) := by
        rw [List.eraseIdx_eq_take_drop_succ]
        conv => lhs; rw [← List.take_append_drop (cnt x r) left, List.drop_eq_getElem_cons hj, e, hs]
        exact List.perm_middle
      exact (h.trans h2).cons_inv
    rw [List.length_cons, ordL, numL, hc, hm, hs, ord_num r _ hrest (eraseIdx_sorted hp _)]
/-- The greater number stands behind. -/
theorem num_lex : ∀ (p q : List Nat), p.Perm q → ∀ i, (∀ j, j < i → st p j = st q j) → i < p.length → st p i < st q i → numL p < numL q
  | [], q, _, i, _, hi, _ => by simp at hi
  | x :: r, [], h, _, _, _, _ => by have := h.length_eq; simp at this
  | x :: r, y :: s, h, 0, hj, hi, hlt => by
    have hxy : x < y := hlt
    have hl : r.length = s.length := by have := h.length_eq; simpa using this
    have h1 := numL_lt r
    have h2 : cnt x (x :: r) < cnt y (x :: r) := cnt_lt hxy (List.mem_cons_self ..)
    rw [cnt_perm (x := y) h, cnt_cons, if_neg (by omega), cnt_cons, if_neg (by omega)] at h2
    rw [numL, numL, hl]
    rw [hl] at h1
    have h3 : (cnt x r + 1) * fact s.length ≤ cnt y s * fact s.length := Nat.mul_le_mul_right _ (by omega)
    rw [Nat.add_mul, Nat.one_mul] at h3
    omega
  | x :: r, y :: s, h, i + 1, hj, hi, hlt => by
    have hxy : x = y := hj 0 (by omega)
    subst hxy
    have hr := h.cons_inv
    have ih := num_lex r s hr i (fun j hji => hj (j + 1) (by omega)) (by simpa using hi) hlt
    rw [numL, numL, hr.length_eq, cnt_perm hr]
    omega
end Go.Proofs.Ytehmngecpipebaa
