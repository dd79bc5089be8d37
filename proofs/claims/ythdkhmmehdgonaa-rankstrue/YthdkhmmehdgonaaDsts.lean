/-
  Plain mathematics of distinct numbers in increasing order, and of ranks. No condition but what each theorem names.
-/
import Derived.Lib.SlicesCompact
namespace Go.Proofs.Ythdkhmmehdgonaa
open Go.Lib

/-- How many are less than x. -/
def cntL (l : List Int) (x : Int) : Nat := l.countP (fun y => decide (y < x))
theorem cntL_le (l : List Int) (x : Int) : cntL l x ≤ l.length := List.countP_le_length
theorem cntL_perm {l k : List Int} (h : l.Perm k) (x : Int) : cntL l x = cntL k x := h.countP_eq _

/-! ### compact of a list that does not fall -/
theorem comp_inv (d : Array Int) (hs : ∀ i j, i ≤ j → j < d.size → d[i]! ≤ d[j]!) : ∀ m, m ≤ d.size →
    (compactUpTo d m).Pairwise (· < ·) ∧ (∀ x, x ∈ compactUpTo d m ↔ ∃ j, j < m ∧ d[j]! = x) := by
  intro m
  induction m with
  | zero =>
    intro _
    have e : compactUpTo d 0 = [] := rfl
    rw [e]
    refine ⟨List.Pairwise.nil, fun x => ?_⟩
    constructor
    · intro h; cases h
    · rintro ⟨j, h, _⟩; omega
  | succ m ih =>
    intro hm
    obtain ⟨h1, h2⟩ := ih (by omega)
    rw [compactUpTo_succ]
    by_cases hk : keeps d m = true
    · rw [if_pos hk]
      have hk2 : m = 0 ∨ d[m]! ≠ d[m - 1]! := by simpa [keeps] using hk
      refine ⟨List.pairwise_append.2 ⟨h1, List.pairwise_singleton _ _, fun a ha b hb => ?_⟩, fun x => ?_⟩
      · rw [List.mem_singleton] at hb
        subst hb
        obtain ⟨j, hj, rfl⟩ := (h2 a).1 ha
        rcases hk2 with h0 | h0
        · omega
        · have ha1 := hs j (m - 1) (by omega) (by omega)
          have ha2 := hs (m - 1) m (by omega) (by omega)
          omega
      · rw [List.mem_append, List.mem_singleton, h2]
        constructor
        · rintro (⟨j, hj, e⟩ | rfl)
          · exact ⟨j, by omega, e⟩
          · exact ⟨m, by omega, rfl⟩
        · rintro ⟨j, hj, rfl⟩
          by_cases e : j = m
          · subst e; exact .inr rfl
          · exact .inl ⟨j, by omega, rfl⟩
    · rw [if_neg hk, List.append_nil]
      have hk2 : ¬ (m = 0 ∨ d[m]! ≠ d[m - 1]!) := by simpa [keeps] using hk
      have hm0 : m ≠ 0 := fun e => hk2 (.inl e)
      have he : d[m]! = d[m - 1]! := by
        rcases Decidable.em (d[m]! = d[m - 1]!) with e | e
        · exact e
        · exact absurd (.inr e) hk2
      refine ⟨h1, fun x => ?_⟩
      rw [h2]
      constructor
      · rintro ⟨j, hj, e⟩
        exact ⟨j, by omega, e⟩
      · rintro ⟨j, hj, rfl⟩
        by_cases e : j = m
        · subst e; exact ⟨j - 1, by omega, he.symm⟩
        · exact ⟨j, by omega, rfl⟩

theorem comp_spec {l : List Int} (hs : l.Pairwise (· ≤ ·)) : (compact l).Pairwise (· < ·) ∧ ∀ x, x ∈ compact l ↔ x ∈ l := by
  have hsz : l.toArray.size = l.length := by simp
  have hg : ∀ i (h : i < l.length), l.toArray[i]! = l[i] := fun i h => by rw [getElem!_pos l.toArray i (by rw [hsz]; exact h)]; simp
  obtain ⟨h1, h2⟩ := comp_inv l.toArray (fun i j hij hj => by
    rw [hsz] at hj
    rw [hg i (by omega), hg j hj]
    rcases Nat.lt_or_ge i j with h | h
    · exact List.pairwise_iff_getElem.1 hs i j (by omega) hj h
    · obtain rfl : i = j := by omega
      exact Int.le_refl _) l.length (by rw [hsz]; exact Nat.le_refl _)
  refine ⟨h1, fun x => ?_⟩
  unfold compact
  rw [h2]
  constructor
  · rintro ⟨j, hj, rfl⟩
    rw [hg j hj]
    exact List.getElem_mem hj
  · intro hx
    obtain ⟨j, hj, rfl⟩ := List.getElem_of_mem hx
    exact ⟨j, hj, hg j hj⟩

/-- The sorted list (as the library's sort leaves it). -/
def srtd (l : List Int) : List Int := l.mergeSort fun x y => decide (x ≤ y)
theorem srtd_perm (l : List Int) : (srtd l).Perm l := List.mergeSort_perm _ _
theorem srtd_sorted (l : List Int) : (srtd l).Pairwise (· ≤ ·) := by
  have h := List.pairwise_mergeSort (le := fun x y : Int => decide (x ≤ y)) (fun a b c h1 h2 => by simp only [decide_eq_true_eq] at *; omega) (fun a b => by simp only [Bool.or_eq_true, decide_eq_true_eq]; omega) l
  exact h.imp (fun h => by simpa using h)

/-- The distinct numbers in increasing order. -/
def dst (l : List Int) : List Int := compact (srtd l)
theorem dst_lt (l : List Int) : (dst l).Pairwise (· < ·) := (comp_spec (srtd_sorted l)).1
theorem dst_mem (l : List Int) (x : Int) : x ∈ dst l ↔ x ∈ l := ((comp_spec (srtd_sorted l)).2 x).trans (srtd_perm l).mem_iff
theorem comp_length_le (l : List Int) : (compact l).length ≤ l.length := by
  unfold compact compactUpTo
  rw [List.length_map]
  exact Nat.le_trans (List.length_filter_le _ _) (by simp)
theorem dst_length_le (l : List Int) : (dst l).length ≤ l.length := Nat.le_trans (comp_length_le _) (Nat.le_of_eq (srtd_perm l).length_eq)

theorem lt_nodup {l : List Int} (h : l.Pairwise (· < ·)) : l.Nodup := h.imp fun h e => by omega
theorem lt_le {l : List Int} (h : l.Pairwise (· < ·)) : l.Pairwise (· ≤ ·) := h.imp fun h => by omega
/-- Two strictly increasing lists of the same numbers are one. -/
theorem lt_ext {l k : List Int} (h1 : l.Pairwise (· < ·)) (h2 : k.Pairwise (· < ·)) (h : ∀ x, x ∈ l ↔ x ∈ k) : l = k :=
  List.Perm.eq_of_pairwise (le := (· ≤ ·)) (fun _ _ _ _ h1 h2 => Int.le_antisymm h1 h2) (lt_le h1) (lt_le h2) ((List.perm_ext_iff_of_nodup (lt_nodup h1) (lt_nodup h2)).2 h)

/-- In a strictly increasing list as many are less than an element as stand before it. -/
theorem cnt_at {s : List Int} (hs : s.Pairwise (· < ·)) {p : Nat} {x : Int} (h : s[p]? = some x) : cntL s x = p := by
  obtain ⟨hp, e⟩ := List.getElem?_eq_some_iff.1 h
  have sp : s = s.take p ++ s.drop p := (List.take_append_drop p s).symm
  unfold cntL
  rw [sp, List.countP_append]
  have h1 : (s.take p).countP (fun y => decide (y < x)) = p := by
    have : (s.take p).countP (fun y => decide (y < x)) = (s.take p).length := List.countP_eq_length.2 fun y hy => by
      obtain ⟨j, hj, rfl⟩ := List.getElem_of_mem hy
      rw [List.length_take] at hj
      rw [List.getElem_take, ← e]
      simpa using List.pairwise_iff_getElem.1 hs j p (by omega) hp (by omega)
    rw [this, List.length_take]
    omega
  have h2 : (s.drop p).countP (fun y => decide (y < x)) = 0 := List.countP_eq_zero.2 fun y hy => by
    obtain ⟨j, hj, rfl⟩ := List.getElem_of_mem hy
    rw [List.length_drop] at hj
    rw [List.getElem_drop, ← e]
    have : s[p] ≤ s[p + j] := by
      rcases Nat.eq_zero_or_pos j with h0 | h0
      · subst h0; exact Int.le_refl _
      · exact Int.le_of_lt (List.pairwise_iff_getElem.1 hs p (p + j) hp (by omega) (by omega))
    simpa using this
  rw [h1, h2]
  rfl
theorem at_cnt {s : List Int} (hs : s.Pairwise (· < ·)) {x : Int} (h : x ∈ s) : s[cntL s x]? = some x := by
  obtain ⟨p, hp, rfl⟩ := List.getElem_of_mem h
  have e : s[p]? = some s[p] := List.getElem?_eq_getElem hp
  rw [cnt_at hs e]
  exact e
/-- One number more is less than x + 1, if x is there. -/
theorem cnt_next {s : List Int} (hs : s.Pairwise (· < ·)) {x : Int} (h : x ∈ s) : cntL s (x + 1) = cntL s x + 1 := by
  obtain ⟨p, hp, rfl⟩ := List.getElem_of_mem h
  rw [cnt_at hs (List.getElem?_eq_getElem hp)]
  by_cases h2 : p + 1 < s.length
  · rw [show p + 1 = cntL s s[p + 1] from (cnt_at hs (List.getElem?_eq_getElem h2)).symm]
    unfold cntL
    refine List.countP_congr fun y hy => ?_
    obtain ⟨j, hj, rfl⟩ := List.getElem_of_mem hy
    have a1 := List.pairwise_iff_getElem.1 hs p (p + 1) hp h2 (by omega)
    have a2 : j ≤ p → s[j] ≤ s[p] := fun hjp => by
      rcases Nat.lt_or_ge j p with h | h
      · exact Int.le_of_lt (List.pairwise_iff_getElem.1 hs j p hj hp h)
      · obtain rfl : j = p := by omega
        exact Int.le_refl _
    have a3 : p + 1 ≤ j → s[p + 1] ≤ s[j] := fun hjp => by
      rcases Nat.lt_or_ge (p + 1) j with h | h
      · exact Int.le_of_lt (List.pairwise_iff_getElem.1 hs (p + 1) j h2 hj h)
      · obtain rfl : j = p + 1 := by omega
        exact Int.le_refl _
    simp only [decide_eq_true_eq]
    constructor
    · intro h
      rcases Nat.lt_or_ge p j with h3 | h3
      · have := a3 h3; omega
      · have := a2 h3; omega
    · intro h
      rcases Nat.lt_or_ge p j with h3 | h3
      · have := a3 h3; omega
      · have := a2 h3; omega
  · have e : p + 1 = s.length := by omega
    unfold cntL
    rw [e]
    refine List.countP_eq_length.2 fun y hy => ?_
    obtain ⟨j, hj, rfl⟩ := List.getElem_of_mem hy
    have : s[j] ≤ s[p] := by
      rcases Nat.lt_or_ge j p with h | h
      · exact Int.le_of_lt (List.pairwise_iff_getElem.1 hs j p hj hp h)
      · obtain rfl : j = p := by omega
        exact Int.le_refl _
    simp only [decide_eq_true_eq]
    omega
theorem cnt_lt {s : List Int} (hs : s.Pairwise (· < ·)) {x : Int} (h : x ∈ s) : cntL s x < s.length := by
  obtain ⟨p, hp, rfl⟩ := List.getElem_of_mem h
  rw [cnt_at hs (List.getElem?_eq_getElem hp)]
  exact hp

/-- The ranks of a list. -/
def rks (l : List Int) : List Int := l.map fun x => (cntL (dst l) x : Int)
theorem rks_length (l : List Int) : (rks l).length = l.length := by simp [rks]
theorem rks_get {l : List Int} {i : Nat} {x : Int} (h : l[i]? = some x) : (rks l)[i]? = some (cntL (dst l) x : Int) := by unfold rks; rw [List.getElem?_map, h]; rfl
/-- The numbers from 0 up. -/
def upto (n : Nat) : List Int := (List.range n).map fun x : Nat => (x : Int)
theorem upto_length (n : Nat) : (upto n).length = n := by simp [upto]
theorem upto_get (n i : Nat) (h : i < n) : (upto n)[i]? = some (i : Int) := by unfold upto; rw [List.getElem?_map, List.getElem?_range h]; rfl
theorem upto_lt (n : Nat) : (upto n).Pairwise (· < ·) := by
  unfold upto
  rw [List.pairwise_map]
  exact List.pairwise_lt_range.imp fun h => by omega
theorem upto_mem (n : Nat) (x : Int) : x ∈ upto n ↔ 0 ≤ x ∧ x < n := by
  unfold upto
  rw [List.mem_map]
  constructor
  · rintro ⟨k, hk, rfl⟩
    have := List.mem_range.1 hk
    omega
  · intro h
    exact ⟨x.toNat, List.mem_range.2 (by omega), by omega⟩
/-- The ranks are all the numbers below the count of the distinct ones. -/
theorem dst_rks (l : List Int) : dst (rks l) = upto (dst l).length := by
  refine lt_ext (dst_lt _) (upto_lt _) fun x => ?_
  rw [dst_mem, upto_mem]
  unfold rks
  rw [List.mem_map]
  constructor
  · rintro ⟨y, hy, rfl⟩
    have := cnt_lt (dst_lt l) ((dst_mem l y).2 hy)
    omega
  · rintro ⟨h1, h2⟩
    have hx : x.toNat < (dst l).length := by omega
    refine ⟨(dst l)[x.toNat], (dst_mem l _).1 (List.getElem_mem hx), ?_⟩
    rw [cnt_at (dst_lt l) (List.getElem?_eq_getElem hx)]
    omega
/-- Ranks of ranks are ranks. -/
theorem rks_rks (l : List Int) : rks (rks l) = rks l := by
  apply List.ext_getElem?
  intro i
  by_cases hi : i < l.length
  · have hx : l[i]? = some l[i] := List.getElem?_eq_getElem hi
    have h1 := rks_get hx
    rw [rks_get h1, h1, dst_rks, cnt_at (upto_lt _) (upto_get _ (cntL (dst l) l[i]) (cnt_lt (dst_lt l) ((dst_mem l _).2 (List.getElem_mem hi))))]
  · rw [List.getElem?_eq_none (by rw [rks_length, rks_length]; omega), List.getElem?_eq_none (by rw [rks_length]; omega)]

/-! ### The document's way: the kinds in the order in which they come -/
def kin (l : List Int) : List Int := l.foldl (fun ks x => if x ∈ ks then ks else ks ++ [x]) []
theorem kin_nil : kin [] = [] := rfl
theorem kin_snoc (l : List Int) (x : Int) : kin (l ++ [x]) = if x ∈ kin l then kin l else kin l ++ [x] := by
  unfold kin
  rw [List.foldl_append]
  rfl
theorem kin_step {l : List Int} {i : Nat} {x : Int} (h : l[i]? = some x) : kin (l.take (i + 1)) = if x ∈ kin (l.take i) then kin (l.take i) else kin (l.take i) ++ [x] := by
  rw [List.take_add_one, h]
  exact kin_snoc _ _
theorem kin_spec (l : List Int) : ∀ i, (kin (l.take i)).Nodup ∧ (∀ x, x ∈ kin (l.take i) ↔ x ∈ l.take i) ∧ (kin (l.take i)).length ≤ i := by
  intro i
  induction i with
  | zero => exact ⟨List.nodup_nil, fun x => Iff.rfl, Nat.le_refl _⟩
  | succ i ih =>
    obtain ⟨h1, h2, h3⟩ := ih
    by_cases hi : i < l.length
    · have hx : l[i]? = some l[i] := List.getElem?_eq_getElem hi
      rw [kin_step hx, List.take_add_one, hx]
      by_cases hm : l[i] ∈ kin (l.take i)
      · rw [if_pos hm]
        refine ⟨h1, fun x => ?_, by omega⟩
        rw [List.mem_append, Option.toList_some, List.mem_singleton, h2]
        exact ⟨Or.inl, fun h => h.elim id fun e => by rw [e]; exact (h2 _).1 hm⟩
      · rw [if_neg hm]
        refine ⟨?_, fun x => ?_, by simp; omega⟩
        · rw [List.nodup_append]
          exact ⟨h1, List.nodup_cons.2 ⟨by simp, List.nodup_nil⟩, fun a ha b hb e => hm (by rw [List.mem_singleton] at hb; rw [← hb, ← e]; exact ha)⟩
        · rw [List.mem_append, List.mem_append, Option.toList_some, List.mem_singleton, h2]
    · rw [List.take_of_length_le (by omega)] at h1 h2 h3 ⊢
      exact ⟨h1, h2, by omega⟩
theorem kin_perm (l : List Int) : (kin l).Perm (dst l) := by
  have h := kin_spec l l.length
  rw [List.take_length] at h
  exact (List.perm_ext_iff_of_nodup h.1 (lt_nodup (dst_lt l))).2 fun x => by rw [h.2.1, dst_mem]
theorem kin_len (l : List Int) : (kin l).length = (dst l).length := (kin_perm l).length_eq
theorem kin_cnt (l : List Int) (x : Int) : cntL (kin l) x = cntL (dst l) x := cntL_perm (kin_perm l) x

/-- A row in which the numbers met already stand at their places. -/
def laidK (s k : List Int) : List Int := s.map fun x => if x ∈ k then x else 0
theorem laidK_length (s k : List Int) : (laidK s k).length = s.length := by simp [laidK]
theorem laidK_nil (s : List Int) : laidK s [] = List.replicate s.length 0 := by
  unfold laidK
  rw [List.eq_replicate_iff]
  refine ⟨by simp, fun b hb => ?_⟩
  obtain ⟨x, _, rfl⟩ := List.mem_map.1 hb
  simp
theorem laidK_step {s : List Int} (hs : s.Pairwise (· < ·)) (k : List Int) {x : Int} (hx : x ∈ s) : (laidK s k).set (cntL s x) x = laidK s (k ++ [x]) := by
  have hp := cnt_lt hs hx
  have hat := at_cnt hs hx
  apply List.ext_getElem?
  intro i
  unfold laidK
  by_cases e : cntL s x = i
  · subst e
    rw [List.getElem?_set_self (by rw [List.length_map]; exact hp), List.getElem?_map, hat]
    simp
  · rw [List.getElem?_set_ne e, List.getElem?_map, List.getElem?_map]
    cases hi : s[i]? with
    | none => rfl
    | some y =>
      have hne : y ≠ x := fun e2 => by subst e2; exact e (cnt_at hs hi)
      simp [hne]
theorem laidK_all {s k : List Int} (h : ∀ x, x ∈ s → x ∈ k) : laidK s k = s := by
  unfold laidK
  conv => rhs; rw [← List.map_id s]
  exact List.map_congr_left fun x hx => if_pos (h x hx)
theorem laidK_kin (l : List Int) : laidK (dst l) (kin l) = dst l := laidK_all fun _ hx => (kin_perm l).mem_iff.2 hx

/-! ### Strictly increasing, by neighbours -/
/-- The first i numbers rise. -/
def IncTo (l : List Int) (i : Nat) : Prop := ∀ j, j + 1 < i → j + 1 < l.length → l.getD j 0 < l.getD (j + 1) 0
theorem incTo_lt {l : List Int} (h : IncTo l l.length) : l.Pairwise (· < ·) := by
  rw [List.pairwise_iff_getElem]
  have aux : ∀ k i, (hi : i + k + 1 < l.length) → l[i]'(by omega) < l[i + k + 1] := by
    intro k
    induction k with
    | zero =>
      intro i hi
      have := h i hi hi
      simpa [List.getD_eq_getElem?_getD, List.getElem?_eq_getElem hi, List.getElem?_eq_getElem (show i < l.length by omega)] using this
    | succ k ih =>
      intro i hi
      have a1 := ih i (by omega)
      have a2 := h (i + k + 1) (by omega) (by omega)
      rw [List.getD_eq_getElem?_getD, List.getD_eq_getElem?_getD, List.getElem?_eq_getElem (show i + k + 1 < l.length by omega), List.getElem?_eq_getElem (show i + k + 1 + 1 < l.length by omega)] at a2
      simp only [Option.getD_some] at a2
      have e : i + (k + 1) + 1 = i + k + 1 + 1 := by omega
      simp only [e]
      omega
  intro i j hi hj hij
  have := aux (j - i - 1) i (by omega)
  simpa [show i + (j - i - 1) + 1 = j by omega] using this
/-- Whether a list is strictly increasing. -/
def inc (l : List Int) : Bool := decide (l.Pairwise (· < ·))
theorem inc_yes {l : List Int} (h : IncTo l l.length) : inc l = true := decide_eq_true (incTo_lt h)
theorem inc_of {l : List Int} (h : l.Pairwise (· < ·)) : inc l = true := decide_eq_true h
theorem inc_lt {l : List Int} (h : inc l = true) : l.Pairwise (· < ·) := of_decide_eq_true h
theorem inc_no {l : List Int} {i : Nat} {x y : Int} (h0 : l[i]? = some x) (h1 : l[i + 1]? = some y) (h : y ≤ x) : inc l = false := decide_eq_false fun hp => by
  obtain ⟨a, e1⟩ := List.getElem?_eq_some_iff.1 h0
  obtain ⟨b, e2⟩ := List.getElem?_eq_some_iff.1 h1
  have := List.pairwise_iff_getElem.1 hp i (i + 1) a b (by omega)
  omega
theorem IncTo.zero (l : List Int) : IncTo l 0 := fun j h => by omega
theorem IncTo.one (l : List Int) : IncTo l 1 := fun j h => by omega
theorem IncTo.step {l : List Int} {i : Nat} {x y : Int} (h : IncTo l (i + 1)) (h0 : l[i]? = some x) (h1 : l[i + 1]? = some y) (hlt : x < y) : IncTo l (i + 2) := fun j hj hl => by
  by_cases e : j = i
  · subst e
    rw [List.getD_eq_getElem?_getD, List.getD_eq_getElem?_getD, h0, h1]
    exact hlt
  · exact h j (by omega) hl
theorem IncTo.past {l : List Int} {i : Nat} (h : IncTo l i) (hi : l.length ≤ i) : inc l = true := inc_yes fun j h1 h2 => h j (by omega) h2

/-- Counting along a list. -/
theorem cntL_take {l : List Int} {i : Nat} {v : Int} (h : l[i]? = some v) (x : Int) : cntL (l.take (i + 1)) x = cntL (l.take i) x + if v < x then 1 else 0 := by
  unfold cntL
  rw [List.take_add_one, h, Option.toList_some, List.countP_append, List.countP_singleton]
  simp
end Go.Proofs.Ythdkhmmehdgonaa
