/-
  Plain mathematics of permutations as lists of numbers, of no program. Plain mathematics: how many numbers behind a place are less, swaps, factorials, the number of a permutation in the order of all. No condition but what each theorem names.
-/
namespace Go.Proofs.Ytpkclmfadlkbeaa

/-- A list in which each number below its length occurs once. -/
structure PermL (p : List Nat) : Prop where
  nd : p.Nodup
  lt : ∀ x ∈ p, x < p.length

theorem PermL.perm {p : List Nat} (h : PermL p) : p.Perm (List.range p.length) := by
  refine (List.perm_ext_iff_of_nodup h.nd List.nodup_range).2 fun x => ?_
  rw [List.mem_range]
  refine ⟨h.lt x, fun hx => ?_⟩
  by_cases hm : x ∈ p
  · exact hm
  · have h1 : (x :: p).Nodup := List.nodup_cons.2 ⟨hm, h.nd⟩
    have h2 : (x :: p) ⊆ List.range p.length := fun y hy => by
      rw [List.mem_range]
      rcases List.mem_cons.1 hy with e | e
      · rw [e]; exact hx
      · exact h.lt y e
    have h3 := List.Nodup.length_le_of_subset h1 h2
    rw [List.length_cons, List.length_range] at h3
    omega
theorem PermL.mem {p : List Nat} (h : PermL p) {x : Nat} (hx : x < p.length) : x ∈ p := h.perm.mem_iff.2 (List.mem_range.2 hx)
theorem PermL.of_perm {p : List Nat} {n : Nat} (h : p.Perm (List.range n)) : PermL p := by
  have hl : p.length = n := by rw [h.length_eq, List.length_range]
  exact ⟨h.symm.nodup List.nodup_range, fun x hx => by rw [hl]; exact List.mem_range.1 (h.mem_iff.1 hx)⟩
theorem PermL.range (n : Nat) : PermL (List.range n) := .of_perm (.refl _)
theorem PermL.of_eq {p q : List Nat} (h : PermL p) (hq : q.Perm p) : PermL q := .of_perm (hq.trans h.perm)

/-- The same of a list of integers. -/
def isPerm (l : List Int) : Bool := decide (l.Nodup ∧ ∀ z ∈ l, 0 ≤ z ∧ z < (l.length : Int))
/-- Numbers that are not negative, as integers. -/
def ofN (p : List Nat) : List Int := p.map fun x : Nat => (x : Int)
theorem ofN_length (p : List Nat) : (ofN p).length = p.length := by simp [ofN]
theorem ofN_get (p : List Nat) (i : Nat) : (ofN p)[i]? = p[i]?.map fun x : Nat => (x : Int) := by simp [ofN]
theorem ofN_inj {p q : List Nat} (h : ofN p = ofN q) : p = q := by
  have := congrArg (List.map Int.toNat) h
  simpa [ofN, List.map_map, Function.comp_def] using this
theorem nodup_map {α β : Type} {f : α → β} (hf : ∀ a b, f a = f b → a = b) {l : List α} (h : l.Nodup) : (l.map f).Nodup := by
  rw [List.nodup_iff_pairwise_ne, List.pairwise_map]
  exact (List.nodup_iff_pairwise_ne.1 h).imp fun hne e => hne (hf _ _ e)
theorem nodup_map_on {α β : Type} {f : α → β} {l : List α} (hf : ∀ a ∈ l, ∀ b ∈ l, f a = f b → a = b) (h : l.Nodup) : (l.map f).Nodup := by
  rw [List.nodup_iff_pairwise_ne, List.pairwise_map]
  exact (List.nodup_iff_pairwise_ne.1 h).imp_of_mem fun ha hb hne e => hne (hf _ ha _ hb e)
theorem nodup_of_map {α β : Type} {f : α → β} {l : List α} (h : (l.map f).Nodup) : l.Nodup := by
  rw [List.nodup_iff_pairwise_ne, List.pairwise_map] at h
  exact List.nodup_iff_pairwise_ne.2 (h.imp fun hne e => hne (by rw [e]))

theorem isPerm_ofN {p : List Nat} (h : PermL p) : isPerm (ofN p) = true := by
  refine decide_eq_true ⟨nodup_map (fun a b e => by omega) h.nd, fun z hz => ?_⟩
  obtain ⟨x, hx, rfl⟩ := List.mem_map.1 hz
  have := h.lt x hx
  rw [ofN_length]
  omega
theorem isPerm_ex {l : List Int} (h : isPerm l = true) : ∃ p, PermL p ∧ l = ofN p := by
  obtain ⟨h1, h2⟩ := of_decide_eq_true h
  have e : l = ofN (l.map Int.toNat) := by
    unfold ofN
    rw [List.map_map]
    conv => lhs; rw [← List.map_id l]
    refine List.map_congr_left fun z hz => ?_
    have := h2 z hz
    simp only [id, Function.comp]
    omega
  refine ⟨l.map Int.toNat, ⟨?_, fun x hx => ?_⟩, e⟩
  · rw [e] at h1
    exact nodup_of_map h1
  · obtain ⟨z, hz, rfl⟩ := List.mem_map.1 hx
    have := h2 z hz
    rw [List.length_map]
    omega

/-- The answer of Check. -/
def chk (l : List Int) : Int := if 300 < l.length then 1 else if isPerm l then 0 else 4
theorem chk_zero {l : List Int} (h : chk l = 0) : l.length ≤ 300 ∧ ∃ p, PermL p ∧ l = ofN p := by
  unfold chk at h
  split at h
  · omega
  · split at h
    · exact ⟨by omega, isPerm_ex ‹_›⟩
    · omega
theorem chk_ofN {p : List Nat} (h : PermL p) (hn : p.length ≤ 300) : chk (ofN p) = 0 := by
  unfold chk
  rw [if_neg (by rw [ofN_length]; omega), isPerm_ofN h]
  rfl
theorem chk_small (l : List Int) : 0 ≤ chk l ∧ chk l ≤ 4 := by
  unfold chk
  split
  · omega
  · split <;> omega

/-- A number of a list. -/
def st (p : List Nat) (i : Nat) : Nat := p.getD i 0
theorem st_get {p : List Nat} {i : Nat} (h : i < p.length) : p[i]? = some (st p i) := by
  rw [List.getElem?_eq_getElem h]
  simp [st, h]
theorem st_of {p : List Nat} {i x : Nat} (h : p[i]? = some x) : st p i = x := by simp [st, List.getD_eq_getElem?_getD, h]
theorem st_mem {p : List Nat} {i : Nat} (h : i < p.length) : st p i ∈ p := List.mem_of_getElem? (st_get h)
theorem PermL.st_lt {p : List Nat} (h : PermL p) {i : Nat} (hi : i < p.length) : st p i < p.length := h.lt _ (st_mem hi)
theorem PermL.inj {p : List Nat} (h : PermL p) {i j : Nat} (hi : i < p.length) (hj : j < p.length) (e : st p i = st p j) : i = j := by
  have h1 := st_get hi
  have h2 := st_get hj
  rw [← e, ← h1] at h2
  exact ((List.getElem?_inj hj h.nd).1 h2).symm
theorem st_map {p : List Nat} {f : Nat → Nat} {i : Nat} (h : i < p.length) : st (p.map f) i = f (st p i) := st_of (by rw [List.getElem?_map, st_get h]; rfl)
theorem st_range {n i : Nat} (h : i < n) : st (List.range n) i = i := st_of (by rw [List.getElem?_range h])
theorem map_st (p : List Nat) : (List.range p.length).map (st p) = p := by
  apply List.ext_getElem?
  intro i
  rw [List.getElem?_map]
  by_cases h : i < p.length
  · rw [List.getElem?_range h, st_get h]; rfl
  · rw [List.getElem?_eq_none (by simpa using h), List.getElem?_eq_none (by omega)]; rfl
theorem st_ext {p q : List Nat} (hl : p.length = q.length) (h : ∀ i, i < p.length → st p i = st q i) : p = q := by
  apply List.ext_getElem?
  intro i
  by_cases hi : i < p.length
  · rw [st_get hi, st_get (hl ▸ hi), h i hi]
  · rw [List.getElem?_eq_none (by omega), List.getElem?_eq_none (by omega)]

/-- The inverse. -/
def invL (p : List Nat) : List Nat := (List.range p.length).map fun i => p.idxOf i
theorem invL_length (p : List Nat) : (invL p).length = p.length := by simp [invL]
theorem idx_lt {p : List Nat} (h : PermL p) {x : Nat} (hx : x < p.length) : p.idxOf x < p.length := List.idxOf_lt_length_iff.2 (h.mem hx)
theorem st_idx {p : List Nat} (h : PermL p) {x : Nat} (hx : x < p.length) : st p (p.idxOf x) = x := by
  have h1 := idx_lt h hx
  refine st_of ?_
  rw [List.getElem?_eq_getElem h1, List.getElem_idxOf]
theorem idx_st {p : List Nat} (h : PermL p) {i : Nat} (hi : i < p.length) : p.idxOf (st p i) = i := by
  have h1 := h.st_lt hi
  exact h.inj (idx_lt h h1) hi (st_idx h h1)
theorem st_inv {p : List Nat} {x : Nat} (hx : x < p.length) : st (invL p) x = p.idxOf x := by
  refine st_of ?_
  rw [invL, List.getElem?_map, List.getElem?_range hx]; rfl
theorem invL_perm {p : List Nat} (h : PermL p) : PermL (invL p) := by
  refine ⟨?_, fun x hx => ?_⟩
  · refine nodup_map_on (fun a ha b hb e => ?_) List.nodup_range
    rw [List.mem_range] at ha hb
    rw [← st_idx h ha, ← st_idx h hb, e]
  · obtain ⟨i, hi, rfl⟩ := List.mem_map.1 hx
    rw [invL_length]
    exact idx_lt h (List.mem_range.1 hi)

/-- One behind the other. -/
def thenL (p q : List Nat) : List Nat := p.map (st q)
theorem thenL_length (p q : List Nat) : (thenL p q).length = p.length := by simp [thenL]
theorem thenL_perm {p q : List Nat} (hp : PermL p) (hq : PermL q) (hl : p.length = q.length) : PermL (thenL p q) := by
  refine ⟨nodup_map_on (fun a ha b hb e => hq.inj (hl ▸ hp.lt a ha) (hl ▸ hp.lt b hb) e) hp.nd, fun x hx => ?_⟩
  obtain ⟨i, hi, rfl⟩ := List.mem_map.1 hx
  rw [thenL_length, hl]
  exact hq.st_lt (hl ▸ hp.lt i hi)
theorem then_assoc {p q r : List Nat} (hp : ∀ x ∈ p, x < q.length) : thenL (thenL p q) r = thenL p (thenL q r) := by
  unfold thenL
  rw [List.map_map]
  exact List.map_congr_left fun x hx => (st_map (hp x hx)).symm
theorem then_inv {p : List Nat} (h : PermL p) : thenL p (invL p) = List.range p.length := by
  refine st_ext (by rw [thenL_length, List.length_range]) fun i hi => ?_
  rw [thenL_length] at hi
  rw [st_range hi, thenL, st_map hi, st_inv (h.st_lt hi), idx_st h hi]
theorem inv_then {p : List Nat} (h : PermL p) : thenL (invL p) p = List.range p.length := by
  refine st_ext (by rw [thenL_length, invL_length, List.length_range]) fun i hi => ?_
  rw [thenL_length, invL_length] at hi
  rw [st_range hi, thenL, st_map (by rw [invL_length]; exact hi), st_inv hi, st_idx h hi]
theorem none_then (p : List Nat) : thenL (List.range p.length) p = p := map_st p

/-- Two places exchanged. -/
def exch (p : List Nat) (i k : Nat) : List Nat := (p.set i (st p k)).set k (st p i)
theorem exch_length (p : List Nat) (i k : Nat) : (exch p i k).length = p.length := by simp [exch]
theorem exch_perm {p : List Nat} {i k : Nat} (hi : i < p.length) (hk : k < p.length) : (exch p i k).Perm p := by
  have h := List.set_set_perm (as := p) hi hk
  have e1 : p[i] = st p i := by simp [st, hi]
  have e2 : p[k] = st p k := by simp [st, hk]
  rw [e1, e2] at h
  exact h
theorem exch_self (p : List Nat) (i : Nat) : exch p i i = p := by
  refine st_ext (exch_length _ _ _) fun j hj => ?_
  rw [exch_length] at hj
  refine st_of ?_
  unfold exch
  by_cases e : i = j
  · subst e
    rw [List.getElem?_set_self (by simpa using hj)]
  · rw [List.getElem?_set_ne e, List.getElem?_set_ne e, st_get hj]
end Go.Proofs.Ytpkclmfadlkbeaa

namespace Go.Proofs.Ytpkclmfadlkbeaa

def fact : Nat → Nat
  | 0 => 1
  | n + 1 => (n + 1) * fact n
theorem fact_pos : ∀ n, 0 < fact n
  | 0 => by decide
  | n + 1 => Nat.mul_pos (Nat.succ_pos n) (fact_pos n)
theorem fact_mono {a b : Nat} (h : a ≤ b) : fact a ≤ fact b := by
  induction b with
  | zero => have : a = 0 := by omega
            rw [this]; exact Nat.le_refl _
  | succ b ih =>
    by_cases e : a = b + 1
    · rw [e]; exact Nat.le_refl _
    · have h1 := ih (by omega)
      have h2 : 1 * fact b ≤ (b + 1) * fact b := Nat.mul_le_mul_right _ (by omega)
      rw [Nat.one_mul] at h2
      exact Nat.le_trans h1 h2
theorem fact_20 : fact 20 = 2432902008176640000 := by decide +kernel

/-- How many of a list are less than a number. -/
def cnt (x : Nat) (l : List Nat) : Nat := l.countP fun y => decide (y < x)
theorem cnt_le (x : Nat) (l : List Nat) : cnt x l ≤ l.length := List.countP_le_length
theorem cnt_cons (x y : Nat) (l : List Nat) : cnt x (y :: l) = cnt x l + if y < x then 1 else 0 := by
  unfold cnt
  rw [List.countP_cons]
  simp
theorem cnt_append (x : Nat) (a b : List Nat) : cnt x (a ++ b) = cnt x a + cnt x b := by unfold cnt; rw [List.countP_append]
theorem cnt_perm {x : Nat} {a b : List Nat} (h : a.Perm b) : cnt x a = cnt x b := h.countP_eq _
theorem cnt_mono {x y : Nat} (h : x ≤ y) (l : List Nat) : cnt x l ≤ cnt y l := List.countP_mono_left fun z _ hz => by simp only [decide_eq_true_eq] at *; omega
theorem cntN_lt {x y : Nat} (h : x < y) {l : List Nat} (hx : x ∈ l) : cnt x l < cnt y l := by
  induction l with
  | nil => cases hx
  | cons z l ih =>
    rw [cnt_cons, cnt_cons]
    rcases List.mem_cons.1 hx with e | e
    · subst e
      have := cnt_mono (Nat.le_of_lt h) l
      rw [if_neg (by omega), if_pos h]
      omega
    · have := ih e
      by_cases h1 : z < x
      · rw [if_pos h1, if_pos (by omega)]; omega
      · rw [if_neg h1]; omega

/-- The swaps of a list: pairs of which the later is less. -/
def swp : List Nat → Nat
  | [] => 0
  | x :: r => cnt x r + swp r
theorem swp_drop {p : List Nat} {i : Nat} (hi : i < p.length) : swp (p.drop i) = cnt (st p i) (p.drop (i + 1)) + swp (p.drop (i + 1)) := by
  have e : p[i] = st p i := by simp [st, hi]
  rw [List.drop_eq_getElem_cons hi, swp, e]
theorem swp_le : ∀ p : List Nat, swp p ≤ p.length * p.length
  | [] => by simp [swp]
  | x :: r => by
    have h1 := cnt_le x r
    have h2 := swp_le r
    rw [swp, List.length_cons, Nat.add_mul, Nat.mul_add]
    omega
theorem cnt_take_step {p : List Nat} {x k : Nat} (hk : k < p.length) : cnt x (p.take (k + 1)) = cnt x (p.take k) + if st p k < x then 1 else 0 := by
  rw [List.take_add_one, st_get hk, cnt_append]
  show _ + cnt x [st p k] = _
  rw [cnt_cons]
  simp [cnt]
/-- The part of a list behind place i, its first k numbers. -/
theorem cnt_mid_step {p : List Nat} {x i k : Nat} (hk : i + k < p.length) : cnt x ((p.drop i).take (k + 1)) = cnt x ((p.drop i).take k) + if st p (i + k) < x then 1 else 0 := by
  have h : k < (p.drop i).length := by rw [List.length_drop]; omega
  rw [cnt_take_step h]
  have e : st (p.drop i) k = st p (i + k) := st_of (by rw [List.getElem?_drop, st_get hk])
  rw [e]
theorem cnt_mid_le (x : Nat) (p : List Nat) (i k : Nat) : cnt x ((p.drop i).take k) ≤ p.length := by
  have := cnt_le x ((p.drop i).take k)
  rw [List.length_take, List.length_drop] at this
  omega

/-- The number of a list of different numbers, in the order of all its orders. -/
def numL : List Nat → Nat
  | [] => 0
  | x :: r => cnt x r * fact r.length + numL r
theorem numL_lt : ∀ p : List Nat, numL p < fact p.length
  | [] => by decide
  | x :: r => by
    have h1 := cnt_le x r
    have h2 := numL_lt r
    have h3 : cnt x r * fact r.length ≤ r.length * fact r.length := Nat.mul_le_mul_right _ h1
    rw [numL, List.length_cons, fact, Nat.add_mul, Nat.one_mul]
    omega
theorem numL_drop {p : List Nat} {i : Nat} (hi : i < p.length) : numL (p.drop i) = cnt (st p i) (p.drop (i + 1)) * fact (p.length - 1 - i) + numL (p.drop (i + 1)) := by
  have e : p[i] = st p i := by simp [st, hi]
  rw [List.drop_eq_getElem_cons hi, numL, e, List.length_drop, show p.length - (i + 1) = p.length - 1 - i by omega]
theorem numL_drop_le (p : List Nat) : ∀ i, i ≤ p.length → numL (p.drop i) ≤ numL p
  | 0, _ => by simp
  | i + 1, h => by
    have h1 := numL_drop_le p i (by omega)
    have h2 := numL_drop (p := p) (i := i) (by omega)
    omega

/-- The numbers below x that do not stand ahead of place i are those behind it that are less than x, if x stands there. -/
theorem free_count {p : List Nat} (h : PermL p) {i : Nat} (hi : i < p.length) : (List.range (st p i)).countP (fun y => decide (y ∉ p.take i)) = cnt (st p i) (p.drop (i + 1)) := by
  unfold cnt
  rw [List.countP_eq_length_filter, List.countP_eq_length_filter]
  refine List.Perm.length_eq ?_
  have hnd : (p.drop (i + 1)).Nodup := List.Nodup.sublist (List.drop_sublist _ _) h.nd
  refine (List.perm_ext_iff_of_nodup (List.Pairwise.filter _ List.nodup_range) (List.Pairwise.filter _ hnd)).2 fun y => ?_
  have hsp : p = p.take i ++ st p i :: p.drop (i + 1) := by
    have e : p[i] = st p i := by simp [st, hi]
    conv => lhs; rw [← List.take_append_drop i p, List.drop_eq_getElem_cons hi, e]
  have hnd2 := h.nd
  rw [hsp] at hnd2
  have hxl := h.st_lt hi
  simp only [List.mem_filter, List.mem_range, decide_eq_true_eq]
  constructor
  · rintro ⟨h1, h2⟩
    have hm := h.mem (x := y) (by omega)
    rw [hsp] at hm
    rcases List.mem_append.1 hm with h3 | h3
    · exact absurd h3 h2
    · rcases List.mem_cons.1 h3 with h4 | h4
      · omega
      · exact ⟨h4, h1⟩
  · rintro ⟨h1, h2⟩
    refine ⟨h2, fun h3 => ?_⟩
    have := (List.nodup_append.1 hnd2).2.2 y h3 y (List.mem_cons_of_mem _ h1)
    exact this rfl
theorem range_count_step (q : Nat → Bool) (y : Nat) : (List.range (y + 1)).countP q = (List.range y).countP q + if q y then 1 else 0 := by
  rw [List.range_succ, List.countP_append]
  simp [List.countP_cons]

/-- The order with a number, out of the numbers that are left. -/
def ordN : Nat → List Nat → Nat → List Nat
  | 0, _, _ => []
  | k + 1, left, N => st left (N / fact k) :: ordN k (left.eraseIdx (N / fact k)) (N % fact k)
theorem ordN_length : ∀ (k : Nat) (left : List Nat) (N : Nat), (ordN k left N).length = k
  | 0, _, _ => rfl
  | k + 1, left, N => by rw [ordN, List.length_cons, ordN_length]
theorem div_fact {k N : Nat} (h : N < fact (k + 1)) : N / fact k < k + 1 := by
  rw [Nat.div_lt_iff_lt_mul (fact_pos k)]
  exact h
theorem ordN_perm : ∀ (k : Nat) (left : List Nat) (N : Nat), left.length = k → N < fact k → (ordN k left N).Perm left
  | 0, left, N, h, _ => by rw [List.eq_nil_of_length_eq_zero h]; exact .refl _
  | k + 1, left, N, h, hN => by
    have hd := div_fact hN
    have hm := Nat.mod_lt N (fact_pos k)
    have ih := ordN_perm k (left.eraseIdx (N / fact k)) (N % fact k) (by rw [List.length_eraseIdx, if_pos (by omega)]; omega) hm
    rw [ordN]
    refine (ih.cons _).trans ?_
    generalize N / fact k = j at *
    have hj : j < left.length := by omega
    have e : left[j] = st left j := by simp [st, hj]
    rw [List.eraseIdx_eq_take_drop_succ]
    conv => rhs; rw [← List.take_append_drop j left, List.drop_eq_getElem_cons hj, e]
    exact List.perm_middle.symm
/-- In a row that rises as many numbers are less as stand ahead. -/
theorem cnt_sorted : ∀ (left : List Nat) (j : Nat), left.Pairwise (· < ·) → j < left.length → cnt (st left j) left = j
  | [], j, _, h => by simp at h
  | x :: r, 0, hp, _ => by
    rw [List.pairwise_cons] at hp
    show cnt x (x :: r) = 0
    rw [cnt_cons, if_neg (by omega)]
    unfold cnt
    rw [List.countP_eq_zero.2 fun y hy => by have := hp.1 y hy; simp; omega]
  | x :: r, j + 1, hp, h => by
    rw [List.pairwise_cons] at hp
    have hj : j < r.length := by simpa using h
    show cnt (st r j) (x :: r) = j + 1
    have := hp.1 _ (st_mem hj)
    rw [cnt_cons, cnt_sorted r j hp.2 hj, if_pos this]
theorem eraseIdx_sorted {left : List Nat} (h : left.Pairwise (· < ·)) (j : Nat) : (left.eraseIdx j).Pairwise (· < ·) := h.sublist (List.eraseIdx_sublist _ _)
theorem cnt_erase {left : List Nat} {j : Nat} (hj : j < left.length) (hp : left.Pairwise (· < ·)) : cnt (st left j) (left.eraseIdx j) = j := by
  have h := cnt_sorted left j hp hj
  have e : left[j] = st left j := by simp [st, hj]
  have h2 : left.Perm (st left j :: left.eraseIdx j) := by
    rw [List.eraseIdx_eq_take_drop_succ]
    conv => lhs; rw [← List.take_append_drop j left, List.drop_eq_getElem_cons hj, e]
    exact List.perm_middle
  have h3 := cnt_perm (x := st left j) h2
  rw [cnt_cons, if_neg (by omega), h] at h3
  omega
theorem num_ord : ∀ (k : Nat) (left : List Nat) (N : Nat), left.length = k → N < fact k → left.Pairwise (· < ·) → numL (ordN k left N) = N
  | 0, left, N, h, hN, _ => by
    have : N = 0 := by rw [show fact 0 = 1 from rfl] at hN; omega
    rw [this]; rfl
  | k + 1, left, N, h, hN, hp => by
    have hd := div_fact hN
    have hm := Nat.mod_lt N (fact_pos k)
    have hl : (left.eraseIdx (N / fact k)).length = k := by rw [List.length_eraseIdx, if_pos (by omega)]; omega
    rw [ordN, numL, ordN_length, num_ord k _ _ hl hm (eraseIdx_sorted hp _), cnt_perm (ordN_perm k _ _ hl hm), cnt_erase (by omega) hp, Nat.mul_comm]
    exact Nat.div_add_mod _ _
theorem sorted_place {left : List Nat} (hp : left.Pairwise (· < ·)) {x : Nat} (hx : x ∈ left) : st left (cnt x left) = x := by
  obtain ⟨j, hj, e⟩ := List.mem_iff_getElem.1 hx
  have e1 : left[j] = st left j := by simp [st, hj]
  have h := cnt_sorted left j hp hj
  rw [← e1, e] at h
  rw [h, ← e1, e]
theorem ord_num : ∀ (p left : List Nat), p.Perm left → left.Pairwise (· < ·) → ordN p.length left (numL p) = p
  | [], left, h, _ => rfl
  | x :: r, left, h, hp => by
    have hx : x ∈ left := h.mem_iff.1 (List.mem_cons_self ..)
    have hn := numL_lt r
    have hc : (cnt x r * fact r.length + numL r) / fact r.length = cnt x r := by
      rw [Nat.mul_comm, Nat.mul_add_div (fact_pos _), Nat.div_eq_of_lt hn, Nat.add_zero]
    have hm : (cnt x r * fact r.length + numL r) % fact r.length = numL r := by
      rw [Nat.mul_comm, Nat.mul_add_mod, Nat.mod_eq_of_lt hn]
    have hcl : cnt x left = cnt x r := by
      rw [← cnt_perm h, cnt_cons, if_neg (by omega)]
      omega
    have hs := sorted_place hp hx
    rw [hcl] at hs
    have hj : cnt x r < left.length := by
      have h1 := cnt_le x r
      have h2 := h.length_eq
      rw [List.length_cons] at h2
      omega
    have hrest : r.Perm (left.eraseIdx (cnt x r)) := by
      have e : left[cnt x r] = st left (cnt x r) := by simp [st, hj]
      have h2 : left.Perm (x :: left.eraseIdx (cnt x r)) := by
        rw [List.eraseIdx_eq_take_drop_succ]
        conv => lhs; rw [← List.take_append_drop (cnt x r) left, List.drop_eq_getElem_cons hj, e, hs]
        exact List.perm_middle
      exact (h.trans h2).cons_inv
    rw [List.length_cons, ordN, numL, hc, hm, hs, ord_num r _ hrest (eraseIdx_sorted hp _)]
/-- The greater number stands behind. -/
theorem num_lex : ∀ (p q : List Nat), p.Perm q → ∀ i, (∀ j, j < i → st p j = st q j) → i < p.length → st p i < st q i → numL p < numL q
  | [], q, _, i, _, hi, _ => by simp at hi
  | x :: r, [], h, _, _, _, _ => by have := h.length_eq; simp at this
  | x :: r, y :: s, h, 0, hj, hi, hlt => by
    have hxy : x < y := hlt
    have hl : r.length = s.length := by have := h.length_eq; simpa using this
    have h1 := numL_lt r
    have h2 : cnt x (x :: r) < cnt y (x :: r) := cntN_lt hxy (List.mem_cons_self ..)
    rw [cnt_perm (x := y) h, cnt_cons, if_neg (by omega), cnt_cons, if_neg (by omega)] at h2
    rw [numL, numL, hl]
    rw [hl] at h1
    have h3 : (cnt x r + 1) * fact s.length ≤ cnt y s * fact s.length := Nat.mul_le_mul_right _ (by omega)
    rw [Nat.add_mul, Nat.one_mul] at h3
    omega
  | x :: r, y :: s, h, i + 1, hj, hi, hlt => by
    have hxy : x = y := hj 0 (by omega)
    subst hxy
    have hr := h.cons_inv
    have ih := num_lex r s hr i (fun j hji => hj (j + 1) (by omega)) (by simpa using hi) hlt
    rw [numL, numL, hr.length_eq, cnt_perm hr]
    omega
end Go.Proofs.Ytpkclmfadlkbeaa
