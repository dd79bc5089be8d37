/-
  A part of a slice, for every world. Plain mathematics of distinct numbers in increasing order, and of ranks. Plain mathematics of points in an order: their keys, their places, which of them come in a range. Plain mathematics of wavelet matrices, of no program: the numbers of a matrix, where a level sends the numbers of a range, how many numbers of a range are less than or equal to a number, the one with index k in the sorted range, the matrix of a list. Plain mathematics of wavelet matrices and lists, of no program: the matrix of a list, the list of a matrix, ranges of it, sorted. Words for memory, of no program: a slice of structs of an integer and a slice of words (the levels of a wavelet matrix), what becomes of it where new memory is made; what the reading of such an argument comes to. Plain mathematics of packed arrays, of no program: numbers of a fixed number of bits laid in words of 64 bits, what makes an array valid, reading and laying a number over a word's end, the number of bits that a number needs. No condition but what each theorem names.
-/
import Derived.Test.YtpkclmfadlkbeaaDoorJ01
import Derived.Test.YtpkclmfadlkbeaaDoorJ02
import Derived.IntWalk
import Derived.Lib.SlicesCompact
import Derived.Test.YtpkclmfadlkbeaaDoorJ03
import Derived.Lib.BitFns
namespace Go.Proofs.YtpkclmfadlkbeaaDoor
open Go.RowKit

/-- A part of a slice. -/
theorem slice_row {P : Program} (t : TypeId) (ht : P.underlying t = some (.slice (P.elem t))) (hsz : ∀ W, (sizeOf (P.elem t)).run P W = .ok 1 W) {w : World} {B : Nat} {A : Option Addr} {n c a b : Nat} {xs : List Value} (h1 : a ≤ b) (h2 : b ≤ n) (hnc : n ≤ c) (hL : Lies w B A xs) (hn : xs.length = n) (hnone : A = none → c = 0) :
    ∃ A3, (∀ W, (Instr.slice t (.slice A n c) (some (.int .i64 (a : Int))) (some (.int .i64 (b : Int))) none).run P W = .ok (.slice A3 (b - a) (c - a)) W) ∧ Lies w B A3 ((xs.drop a).take (b - a)) ∧ (A3 = none → c - a = 0) := by
  refine ⟨if c = a then A else A.map (·.add (a * 1)), fun W => ?_, ?_, ?_⟩
  · rw [run_slice_lh W t A n c ht .i64 .i64 (a : Int) (b : Int) (by omega) (by omega) (by omega), hsz]
    rfl
  · intro hne
    have hab : a < b := by
      rcases Nat.lt_or_ge a b with h | h
      · exact h
      · exact absurd (by rw [show b - a = 0 by omega, List.take_zero]) hne
    obtain ⟨bk, o, e, hb, hc⟩ := hL (by intro e; subst e; simp at hn; omega)
    subst e
    rw [if_neg (by omega)]
    refine ⟨bk, o + a * 1, by rw [Option.map_some, Addr.add_lit], hb, fun j v hv => ?_⟩
    rw [List.getElem?_take] at hv
    split at hv
    · rw [List.getElem?_drop] at hv
      have := hc (a + j) v hv
      rwa [show o + a * 1 + j = o + (a + j) by omega]
    · cases hv
  · intro e
    by_cases hca : c = a
    · omega
    · rw [if_neg hca] at e
      cases A with
      | none => have := hnone rfl; omega
      | some ad => cases e
/-- s[:a]. -/
theorem slice_upto {P : Program} (t : TypeId) (ht : P.underlying t = some (.slice (P.elem t))) (hsz : ∀ W, (sizeOf (P.elem t)).run P W = .ok 1 W) {A : Option Addr} {n c a : Nat} (h1 : a ≤ c) (hA : A = none → c = 0) (hf : ∀ ad, A = some ad → ∃ b o, ad = ⟨b, o, none⟩) (W : World) :
    (Instr.slice t (.slice A n c) none (some (.int .i64 (a : Int))) none).run P W = .ok (.slice A a c) W := by
  rw [run_slice_h W t _ n c ht .i64 (a : Int) (by omega) (by omega), hsz]
  cases A with
  | none =>
    obtain rfl := hA rfl
    obtain rfl : a = 0 := by omega
    simp [Result.andThen, sliced]
  | some ad =>
    obtain ⟨b, o, rfl⟩ := hf ad rfl
    by_cases hc : c = 0
    · subst hc
      obtain rfl : a = 0 := by omega
      simp [Result.andThen, sliced]
    · simp [Result.andThen, sliced, hc, Addr.add_lit]
end Go.Proofs.YtpkclmfadlkbeaaDoor

namespace Go.Proofs.YtpkclmfadlkbeaaDoor
open Go.Lib

/-- How many are less than x. -/
def cntL (l : List Int) (x : Int) : Nat := l.countP (fun y => decide (y < x))
theorem cntL_le (l : List Int) (x : Int) : cntL l x ≤ l.length := List.countP_le_length
theorem cntL_perm {l k : List Int} (h : l.Perm k) (x : Int) : cntL l x = cntL k x := h.countP_eq _

/-! ### compact of a list that does not fall -/
theorem comp_inv (d : Array Int) (hs : ∀ i j, i ≤ j → j < d.size → d[i]! ≤ d[j]!) : ∀ m, m ≤ d.size →
    (compactUpTo d m).Pairwise (· < ·) ∧ (∀ x, x ∈ compactUpTo d m ↔ ∃ j, j < m ∧ d[j]! = x) := by
  intro m
  induction m with
  | zero =>
    intro _
    have e : compactUpTo d 0 = [] := rfl
    rw [e]
    refine ⟨List.Pairwise.nil, fun x => ?_⟩
    constructor
    · intro h; cases h
    · rintro ⟨j, h, _⟩; omega
  | succ m ih =>
    intro hm
    obtain ⟨h1, h2⟩ := ih (by omega)
    rw [compactUpTo_succ]
    by_cases hk : keeps d m = true
    · rw [if_pos hk]
      have hk2 : m = 0 ∨ d[m]! ≠ d[m - 1]! := by simpa [keeps] using hk
      refine ⟨List.pairwise_append.2 ⟨h1, List.pairwise_singleton _ _, fun a ha b hb => ?_⟩, fun x => ?_⟩
      · rw [List.mem_singleton] at hb
        subst hb
        obtain ⟨j, hj, rfl⟩ := (h2 a).1 ha
        rcases hk2 with h0 | h0
        · omega
        · have ha1 := hs j (m - 1) (by omega) (by omega)
          have ha2 := hs (m - 1) m (by omega) (by omega)
          omega
      · rw [List.mem_append, List.mem_singleton, h2]
        constructor
        · rintro (⟨j, hj, e⟩ | rfl)
          · exact ⟨j, by omega, e⟩
          · exact ⟨m, by omega, rfl⟩
        · rintro ⟨j, hj, rfl⟩
          by_cases e : j = m
          · subst e; exact .inr rfl
          · exact .inl ⟨j, by omega, rfl⟩
    · rw [if_neg hk, List.append_nil]
      have hk2 : ¬ (m = 0 ∨ d[m]! ≠ d[m - 1]!) := by simpa [keeps] using hk
      have hm0 : m ≠ 0 := fun e => hk2 (.inl e)
      have he : d[m]! = d[m - 1]! := by
        rcases Decidable.em (d[m]! = d[m - 1]!) with e | e
        · exact e
        · exact absurd (.inr e) hk2
      refine ⟨h1, fun x => ?_⟩
      rw [h2]
      constructor
      · rintro ⟨j, hj, e⟩
        exact ⟨j, by omega, e⟩
      · rintro ⟨j, hj, rfl⟩
        by_cases e : j = m
        · subst e; exact ⟨j - 1, by omega, he.symm⟩
        · exact ⟨j, by omega, rfl⟩

theorem comp_spec {l : List Int} (hs : l.Pairwise (· ≤ ·)) : (compact l).Pairwise (· < ·) ∧ ∀ x, x ∈ compact l ↔ x ∈ l := by
  have hsz : l.toArray.size = l.length := by simp
  have hg : ∀ i (h : i < l.length), l.toArray[i]! = l[i] := fun i h => by rw [getElem!_pos l.toArray i (by rw [hsz]; exact h)]; simp
  obtain ⟨h1, h2⟩ := comp_inv l.toArray (fun i j hij hj => by
    rw [hsz] at hj
    rw [hg i (by omega), hg j hj]
    rcases Nat.lt_or_ge i j with h | h
    · exact List.pairwise_iff_getElem.1 hs i j (by omega) hj h
    · obtain rfl : i = j := by omega
      exact Int.le_refl _) l.length (by rw [hsz]; exact Nat.le_refl _)
  refine ⟨h1, fun x => ?_⟩
  unfold compact
  rw [h2]
  constructor
  · rintro ⟨j, hj, rfl⟩
    rw [hg j hj]
    exact List.getElem_mem hj
  · intro hx
    obtain ⟨j, hj, rfl⟩ := List.getElem_of_mem hx
    exact ⟨j, hj, hg j hj⟩

/-- The sorted list (as the library's sort leaves it). -/
def srtd (l : List Int) : List Int := l.mergeSort fun x y => decide (x ≤ y)
theorem srtd_perm (l : List Int) : (srtd l).Perm l := List.mergeSort_perm _ _
theorem srtd_sorted (l : List Int) : (srtd l).Pairwise (· ≤ ·) := by
  have h := List.pairwise_mergeSort (le := fun x y : Int => decide (x ≤ y)) (fun a b c h1 h2 => by simp only [decide_eq_true_eq] at *; omega) (fun a b => by simp only [Bool.or_eq_true, decide_eq_true_eq]; omega) l
  exact h.imp (fun h => by simpa using h)

/-- The distinct numbers in increasing order. -/
def dst (l : List Int) : List Int := compact (srtd l)
theorem dst_lt (l : List Int) : (dst l).Pairwise (· < ·) := (comp_spec (srtd_sorted l)).1
theorem dst_mem (l : List Int) (x : Int) : x ∈ dst l ↔ x ∈ l := ((comp_spec (srtd_sorted l)).2 x).trans (srtd_perm l).mem_iff
theorem comp_length_le (l : List Int) : (compact l).length ≤ l.length := by
  unfold compact compactUpTo
  rw [List.length_map]
  exact Nat.le_trans (List.length_filter_le _ _) (by simp)
theorem dst_length_le (l : List Int) : (dst l).length ≤ l.length := Nat.le_trans (comp_length_le _) (Nat.le_of_eq (srtd_perm l).length_eq)

theorem lt_nodup {l : List Int} (h : l.Pairwise (· < ·)) : l.Nodup := h.imp fun h e => by omega
theorem rise_le {l : List Int} (h : l.Pairwise (· < ·)) : l.Pairwise (· ≤ ·) := h.imp fun h => by omega
/-- Two strictly increasing lists of the same numbers are one. -/
theorem lt_ext {l k : List Int} (h1 : l.Pairwise (· < ·)) (h2 : k.Pairwise (· < ·)) (h : ∀ x, x ∈ l ↔ x ∈ k) : l = k :=
  List.Perm.eq_of_pairwise (le := (· ≤ ·)) (fun _ _ _ _ h1 h2 => Int.le_antisymm h1 h2) (rise_le h1) (rise_le h2) ((List.perm_ext_iff_of_nodup (lt_nodup h1) (lt_nodup h2)).2 h)

/-- In a strictly increasing list as many are less than an element as stand before it. -/
theorem cnt_at {s : List Int} (hs : s.Pairwise (· < ·)) {p : Nat} {x : Int} (h : s[p]? = some x) : cntL s x = p := by
  obtain ⟨hp, e⟩ := List.getElem?_eq_some_iff.1 h
  have sp : s = s.take p ++ s.drop p := (List.take_append_drop p s).symm
  unfold cntL
  rw [sp, List.countP_append]
  have h1 : (s.take p).countP (fun y => decide (y < x)) = p := by
    have : (s.take p).countP (fun y => decide (y < x)) = (s.take p).length := List.countP_eq_length.2 fun y hy => by
      obtain ⟨j, hj, rfl⟩ := List.getElem_of_mem hy
      rw [List.length_take] at hj
      rw [List.getElem_take, ← e]
      simpa using List.pairwise_iff_getElem.1 hs j p (by omega) hp (by omega)
    rw [this, List.length_take]
    omega
  have h2 : (s.drop p).countP (fun y => decide (y < x)) = 0 := List.countP_eq_zero.2 fun y hy => by
    obtain ⟨j, hj, rfl⟩ := List.getElem_of_mem hy
    rw [List.length_drop] at hj
    rw [List.getElem_drop, ← e]
    have : s[p] ≤ s[p + j] := by
      rcases Nat.eq_zero_or_pos j with h0 | h0
      · subst h0; exact Int.le_refl _
      · exact Int.le_of_lt (List.pairwise_iff_getElem.1 hs p (p + j) hp (by omega) (by omega))
    simpa using this
  rw [h1, h2]
  rfl
theorem at_cnt {s : List Int} (hs : s.Pairwise (· < ·)) {x : Int} (h : x ∈ s) : s[cntL s x]? = some x := by
  obtain ⟨p, hp, rfl⟩ := List.getElem_of_mem h
  have e : s[p]? = some s[p] := List.getElem?_eq_getElem hp
  rw [cnt_at hs e]
  exact e
/-- One number more is less than x + 1, if x is there. -/
theorem cnt_next {s : List Int} (hs : s.Pairwise (· < ·)) {x : Int} (h : x ∈ s) : cntL s (x + 1) = cntL s x + 1 := by
  obtain ⟨p, hp, rfl⟩ := List.getElem_of_mem h
  rw [cnt_at hs (List.getElem?_eq_getElem hp)]
  by_cases h2 : p + 1 < s.length
  · rw [show p + 1 = cntL s s[p + 1] from (cnt_at hs (List.getElem?_eq_getElem h2)).symm]
    unfold cntL
    refine List.countP_congr fun y hy => ?_
    obtain ⟨j, hj, rfl⟩ := List.getElem_of_mem hy
    have a1 := List.pairwise_iff_getElem.1 hs p (p + 1) hp h2 (by omega)
    have a2 : j ≤ p → s[j] ≤ s[p] := fun hjp => by
      rcases Nat.lt_or_ge j p with h | h
      · exact Int.le_of_lt (List.pairwise_iff_getElem.1 hs j p hj hp h)
      · obtain rfl : j = p := by omega
        exact Int.le_refl _
    have a3 : p + 1 ≤ j → s[p + 1] ≤ s[j] := fun hjp => by
      rcases Nat.lt_or_ge (p + 1) j with h | h
      · exact Int.le_of_lt (List.pairwise_iff_getElem.1 hs (p + 1) j h2 hj h)
      · obtain rfl : j = p + 1 := by omega
        exact Int.le_refl _
    simp only [decide_eq_true_eq]
    constructor
    · intro h
      rcases Nat.lt_or_ge p j with h3 | h3
      · have := a3 h3; omega
      · have := a2 h3; omega
    · intro h
      rcases Nat.lt_or_ge p j with h3 | h3
      · have := a3 h3; omega
      · have := a2 h3; omega
  · have e : p + 1 = s.length := by omega
    unfold cntL
    rw [e]
    refine List.countP_eq_length.2 fun y hy => ?_
    obtain ⟨j, hj, rfl⟩ := List.getElem_of_mem hy
    have : s[j] ≤ s[p] := by
      rcases Nat.lt_or_ge j p with h | h
      · exact Int.le_of_lt (List.pairwise_iff_getElem.1 hs j p hj hp h)
      · obtain rfl : j = p := by omega
        exact Int.le_refl _
    simp only [decide_eq_true_eq]
    omega
theorem cnt_lt {s : List Int} (hs : s.Pairwise (· < ·)) {x : Int} (h : x ∈ s) : cntL s x < s.length := by
  obtain ⟨p, hp, rfl⟩ := List.getElem_of_mem h
  rw [cnt_at hs (List.getElem?_eq_getElem hp)]
  exact hp

/-- The ranks of a list. -/
def rks (l : List Int) : List Int := l.map fun x => (cntL (dst l) x : Int)
theorem rks_length (l : List Int) : (rks l).length = l.length := by simp [rks]
theorem rks_get {l : List Int} {i : Nat} {x : Int} (h : l[i]? = some x) : (rks l)[i]? = some (cntL (dst l) x : Int) := by unfold rks; rw [List.getElem?_map, h]; rfl
/-- The numbers from 0 up. -/
def upto (n : Nat) : List Int := (List.range n).map fun x : Nat => (x : Int)
theorem upto_length (n : Nat) : (upto n).length = n := by simp [upto]
theorem upto_get (n i : Nat) (h : i < n) : (upto n)[i]? = some (i : Int) := by unfold upto; rw [List.getElem?_map, List.getElem?_range h]; rfl
theorem upto_lt (n : Nat) : (upto n).Pairwise (· < ·) := by
  unfold upto
  rw [List.pairwise_map]
  exact List.pairwise_lt_range.imp fun h => by omega
theorem upto_mem (n : Nat) (x : Int) : x ∈ upto n ↔ 0 ≤ x ∧ x < n := by
  unfold upto
  rw [List.mem_map]
  constructor
  · rintro ⟨k, hk, rfl⟩
    have := List.mem_range.1 hk
    omega
  · intro h
    exact ⟨x.toNat, List.mem_range.2 (by omega), by omega⟩
/-- The ranks are all the numbers below the count of the distinct ones. -/
theorem dst_rks (l : List Int) : dst (rks l) = upto (dst l).length := by
  refine lt_ext (dst_lt _) (upto_lt _) fun x => ?_
  rw [dst_mem, upto_mem]
  unfold rks
  rw [List.mem_map]
  constructor
  · rintro ⟨y, hy, rfl⟩
    have := cnt_lt (dst_lt l) ((dst_mem l y).2 hy)
    omega
  · rintro ⟨h1, h2⟩
    have hx : x.toNat < (dst l).length := by omega
    refine ⟨(dst l)[x.toNat], (dst_mem l _).1 (List.getElem_mem hx), ?_⟩
    rw [cnt_at (dst_lt l) (List.getElem?_eq_getElem hx)]
    omega
/-- Ranks of ranks are ranks. -/
theorem rks_rks (l : List Int) : rks (rks l) = rks l := by
  apply List.ext_getElem?
  intro i
  by_cases hi : i < l.length
  · have hx : l[i]? = some l[i] := List.getElem?_eq_getElem hi
    have h1 := rks_get hx
    rw [rks_get h1, h1, dst_rks, cnt_at (upto_lt _) (upto_get _ (cntL (dst l) l[i]) (cnt_lt (dst_lt l) ((dst_mem l _).2 (List.getElem_mem hi))))]
  · rw [List.getElem?_eq_none (by rw [rks_length, rks_length]; omega), List.getElem?_eq_none (by rw [rks_length]; omega)]

/-! ### The document's way: the kinds in the order in which they come -/
def kin (l : List Int) : List Int := l.foldl (fun ks x => if x ∈ ks then ks else ks ++ [x]) []
theorem kin_nil : kin [] = [] := rfl
theorem kin_snoc (l : List Int) (x : Int) : kin (l ++ [x]) = if x ∈ kin l then kin l else kin l ++ [x] := by
  unfold kin
  rw [List.foldl_append]
  rfl
theorem kin_step {l : List Int} {i : Nat} {x : Int} (h : l[i]? = some x) : kin (l.take (i + 1)) = if x ∈ kin (l.take i) then kin (l.take i) else kin (l.take i) ++ [x] := by
  rw [List.take_add_one, h]
  exact kin_snoc _ _
theorem kin_spec (l : List Int) : ∀ i, (kin (l.take i)).Nodup ∧ (∀ x, x ∈ kin (l.take i) ↔ x ∈ l.take i) ∧ (kin (l.take i)).length ≤ i := by
  intro i
  induction i with
  | zero => exact ⟨List.nodup_nil, fun x => Iff.rfl, Nat.le_refl _⟩
  | succ i ih =>
    obtain ⟨h1, h2, h3⟩ := ih
    by_cases hi : i < l.length
    · have hx : l[i]? = some l[i] := List.getElem?_eq_getElem hi
      rw [kin_step hx, List.take_add_one, hx]
      by_cases hm : l[i] ∈ kin (l.take i)
      · rw [if_pos hm]
        refine ⟨h1, fun x => ?_, by omega⟩
        rw [List.mem_append, Option.toList_some, List.mem_singleton, h2]
        exact ⟨Or.inl, fun h => h.elim id fun e => by rw [e]; exact (h2 _).1 hm⟩
      · rw [if_neg hm]
        refine ⟨?_, fun x => ?_, by simp; omega⟩
        · rw [List.nodup_append]
          exact ⟨h1, List.nodup_cons.2 ⟨by simp, List.nodup_nil⟩, fun a ha b hb e => hm (by rw [List.mem_singleton] at hb; rw [← hb, ← e]; exact ha)⟩
        · rw [List.mem_append, List.mem_append, Option.toList_some, List.mem_singleton, h2]
    · rw [List.take_of_length_le (by omega)] at h1 h2 h3 ⊢
      exact ⟨h1, h2, by omega⟩
theorem kin_perm (l : List Int) : (kin l).Perm (dst l) := by
  have h := kin_spec l l.length
  rw [List.take_length] at h
  exact (List.perm_ext_iff_of_nodup h.1 (lt_nodup (dst_lt l))).2 fun x => by rw [h.2.1, dst_mem]
theorem kin_len (l : List Int) : (kin l).length = (dst l).length := (kin_perm l).length_eq
theorem kin_cnt (l : List Int) (x : Int) : cntL (kin l) x = cntL (dst l) x := cntL_perm (kin_perm l) x

/-- A row in which the numbers met already stand at their places. -/
def laidK (s k : List Int) : List Int := s.map fun x => if x ∈ k then x else 0
theorem laidK_length (s k : List Int) : (laidK s k).length = s.length := by simp [laidK]
theorem laidK_nil (s : List Int) : laidK s [] = List.replicate s.length 0 := by
  unfold laidK
  rw [List.eq_replicate_iff]
  refine ⟨by simp, fun b hb => ?_⟩
  obtain ⟨x, _, rfl⟩ := List.mem_map.1 hb
  simp
theorem laidK_step {s : List Int} (hs : s.Pairwise (· < ·)) (k : List Int) {x : Int} (hx : x ∈ s) : (laidK s k).set (cntL s x) x = laidK s (k ++ [x]) := by
  have hp := cnt_lt hs hx
  have hat := at_cnt hs hx
  apply List.ext_getElem?
  intro i
  unfold laidK
  by_cases e : cntL s x = i
  · subst e
    rw [List.getElem?_set_self (by rw [List.length_map]; exact hp), List.getElem?_map, hat]
    simp
  · rw [List.getElem?_set_ne e, List.getElem?_map, List.getElem?_map]
    cases hi : s[i]? with
    | none => rfl
    | some y =>
      have hne : y ≠ x := fun e2 => by subst e2; exact e (cnt_at hs hi)
      simp [hne]
theorem laidK_all {s k : List Int} (h : ∀ x, x ∈ s → x ∈ k) : laidK s k = s := by
  unfold laidK
  conv => rhs; rw [← List.map_id s]
  exact List.map_congr_left fun x hx => if_pos (h x hx)
theorem laidK_kin (l : List Int) : laidK (dst l) (kin l) = dst l := laidK_all fun _ hx => (kin_perm l).mem_iff.2 hx

/-! ### Strictly increasing, by neighbours -/
/-- The first i numbers rise. -/
def IncTo (l : List Int) (i : Nat) : Prop := ∀ j, j + 1 < i → j + 1 < l.length → l.getD j 0 < l.getD (j + 1) 0
theorem incTo_lt {l : List Int} (h : IncTo l l.length) : l.Pairwise (· < ·) := by
  rw [List.pairwise_iff_getElem]
  have aux : ∀ k i, (hi : i + k + 1 < l.length) → l[i]'(by omega) < l[i + k + 1] := by
    intro k
    induction k with
    | zero =>
      intro i hi
      have := h i hi hi
      simpa [List.getD_eq_getElem?_getD, List.getElem?_eq_getElem hi, List.getElem?_eq_getElem (show i < l.length by omega)] using this
    | succ k ih =>
      intro i hi
      have a1 := ih i (by omega)
      have a2 := h (i + k + 1) (by omega) (by omega)
      rw [List.getD_eq_getElem?_getD, List.getD_eq_getElem?_getD, List.getElem?_eq_getElem (show i + k + 1 < l.length by omega), List.getElem?_eq_getElem (show i + k + 1 + 1 < l.length by omega)] at a2
      simp only [Option.getD_some] at a2
      have e : i + (k + 1) + 1 = i + k + 1 + 1 := by omega
      simp only [e]
      omega
  intro i j hi hj hij
  have := aux (j - i - 1) i (by omega)
  simpa [show i + (j - i - 1) + 1 = j by omega] using this
/-- Whether a list is strictly increasing. -/
def inc (l : List Int) : Bool := decide (l.Pairwise (· < ·))
theorem inc_yes {l : List Int} (h : IncTo l l.length) : inc l = true := decide_eq_true (incTo_lt h)
theorem inc_of {l : List Int} (h : l.Pairwise (· < ·)) : inc l = true := decide_eq_true h
theorem inc_lt {l : List Int} (h : inc l = true) : l.Pairwise (· < ·) := of_decide_eq_true h
theorem inc_no {l : List Int} {i : Nat} {x y : Int} (h0 : l[i]? = some x) (h1 : l[i + 1]? = some y) (h : y ≤ x) : inc l = false := decide_eq_false fun hp => by
  obtain ⟨a, e1⟩ := List.getElem?_eq_some_iff.1 h0
  obtain ⟨b, e2⟩ := List.getElem?_eq_some_iff.1 h1
  have := List.pairwise_iff_getElem.1 hp i (i + 1) a b (by omega)
  omega
theorem IncTo.zero (l : List Int) : IncTo l 0 := fun j h => by omega
theorem IncTo.one (l : List Int) : IncTo l 1 := fun j h => by omega
theorem IncTo.step {l : List Int} {i : Nat} {x y : Int} (h : IncTo l (i + 1)) (h0 : l[i]? = some x) (h1 : l[i + 1]? = some y) (hlt : x < y) : IncTo l (i + 2) := fun j hj hl => by
  by_cases e : j = i
  · subst e
    rw [List.getD_eq_getElem?_getD, List.getD_eq_getElem?_getD, h0, h1]
    exact hlt
  · exact h j (by omega) hl
theorem IncTo.past {l : List Int} {i : Nat} (h : IncTo l i) (hi : l.length ≤ i) : inc l = true := inc_yes fun j h1 h2 => h j (by omega) h2

/-- Counting along a list. -/
theorem cntL_take {l : List Int} {i : Nat} {v : Int} (h : l[i]? = some v) (x : Int) : cntL (l.take (i + 1)) x = cntL (l.take i) x + if v < x then 1 else 0 := by
  unfold cntL
  rw [List.take_add_one, h, Option.toList_some, List.countP_append, List.countP_singleton]
  simp
end Go.Proofs.YtpkclmfadlkbeaaDoor

namespace Go.Proofs.YtpkclmfadlkbeaaDoor
open Go.Sort

/-- A number that may be a coordinate. -/
def InC (x : Int) : Prop := -1048576 ≤ x ∧ x ≤ 1048576
/-- The key of a point. -/
def keyI (a b i : Int) : Int := ((a + 1048576) * 2097153 + b + 1048576) * 150 + i
theorem keyI_lt {a b a' b' : Int} {i j : Nat} (hb : InC b) (hb' : InC b') (hi : i < 150) (hj : j < 150) : keyI a b i < keyI a' b' j ↔ a < a' ∨ (a = a' ∧ (b < b' ∨ (b = b' ∧ i < j))) := by
  unfold keyI InC at *
  omega
theorem keyI_mod {a b : Int} {i : Nat} (hi : i < 150) : (keyI a b i % 150).toNat = i := by
  unfold keyI
  omega
theorem keyI_cut {a b c : Int} {i : Nat} (hb : InC b) (hi : i < 150) : keyI a b i < keyI c (-1048576) 0 ↔ a < c := by
  unfold keyI InC at *
  omega

section
variable (ps : List Pt3) (f g : Pt3 → Int)
/-- The points may be. -/
structure InV : Prop where
  few : ps.length ≤ 150
  fst : ∀ i, i < ps.length → InC (f (ptAt ps i))
  snd : ∀ i, i < ps.length → InC (g (ptAt ps i))
def kyI (i : Nat) : Int := keyI (f (ptAt ps i)) (g (ptAt ps i)) i
def keyL : List Int := (List.range ps.length).map (kyI ps f g)
/-- The place of a point in the order; the order. -/
def plc (i : Nat) : Nat := cntL (dst (keyL ps f g)) (kyI ps f g i)
def ordL : List Nat := (dst (keyL ps f g)).map fun k => (k % 150).toNat
end
variable {ps : List Pt3} {f g : Pt3 → Int}

theorem keyL_length : (keyL ps f g).length = ps.length := by simp [keyL]
theorem keyL_get {i : Nat} (h : i < ps.length) : (keyL ps f g)[i]? = some (kyI ps f g i) := by unfold keyL; rw [List.getElem?_map, List.getElem?_range h]; rfl
theorem kyI_mod (hV : InV ps f g) {i : Nat} (hi : i < ps.length) : (kyI ps f g i % 150).toNat = i := keyI_mod (by have := hV.few; omega)
theorem kyI_lt (hV : InV ps f g) {i j : Nat} (hi : i < ps.length) (hj : j < ps.length) : kyI ps f g i < kyI ps f g j ↔ f (ptAt ps i) < f (ptAt ps j) ∨ (f (ptAt ps i) = f (ptAt ps j) ∧ (g (ptAt ps i) < g (ptAt ps j) ∨ (g (ptAt ps i) = g (ptAt ps j) ∧ i < j))) :=
  keyI_lt (hV.snd i hi) (hV.snd j hj) (by have := hV.few; omega) (by have := hV.few; omega)
theorem kyI_cut (hV : InV ps f g) {i : Nat} (hi : i < ps.length) (c : Int) : kyI ps f g i < keyI c (-1048576) 0 ↔ f (ptAt ps i) < c := keyI_cut (hV.snd i hi) (by have := hV.few; omega)
theorem keyL_nodup (hV : InV ps f g) : (keyL ps f g).Nodup := by
  unfold keyL
  rw [List.Nodup, List.pairwise_map]
  refine List.Pairwise.imp_of_mem (fun {a b} ha hb hab => ?_) (List.pairwise_lt_range (n := ps.length))
  intro e
  have h1 := kyI_mod hV (List.mem_range.1 ha)
  have h2 := kyI_mod hV (List.mem_range.1 hb)
  rw [e] at h1
  omega
theorem dstK_perm (hV : InV ps f g) : (dst (keyL ps f g)).Perm (keyL ps f g) := (List.perm_ext_iff_of_nodup (lt_nodup (dst_lt _)) (keyL_nodup hV)).2 fun x => dst_mem _ x
theorem dstK_length (hV : InV ps f g) : (dst (keyL ps f g)).length = ps.length := (dstK_perm hV).length_eq.trans keyL_length
theorem kyI_mem {i : Nat} (hi : i < ps.length) : kyI ps f g i ∈ dst (keyL ps f g) := (dst_mem _ _).2 (List.mem_of_getElem? (keyL_get hi))
theorem keyL_mods (hV : InV ps f g) : (keyL ps f g).map (fun k => (k % 150).toNat) = List.range ps.length := by
  unfold keyL
  rw [List.map_map]
  conv => rhs; rw [← List.map_id (List.range ps.length)]
  exact List.map_congr_left fun i hi => kyI_mod hV (List.mem_range.1 hi)
theorem ordL_perm (hV : InV ps f g) : (ordL ps f g).Perm (List.range ps.length) := by
  have h := (dstK_perm hV).map fun k => (k % 150).toNat
  rwa [keyL_mods hV] at h
theorem ordL_length (hV : InV ps f g) : (ordL ps f g).length = ps.length := by rw [(ordL_perm hV).length_eq, List.length_range]
theorem ordL_mem (hV : InV ps f g) {i : Nat} : i ∈ ordL ps f g ↔ i < ps.length := (ordL_perm hV).mem_iff.trans List.mem_range
theorem ordL_nodup (hV : InV ps f g) : (ordL ps f g).Nodup := (ordL_perm hV).nodup_iff.2 List.nodup_range
theorem ordL_keys (hV : InV ps f g) : (ordL ps f g).map (kyI ps f g) = dst (keyL ps f g) := by
  unfold ordL
  rw [List.map_map]
  conv => rhs; rw [← List.map_id (dst (keyL ps f g))]
  refine List.map_congr_left fun k hk => ?_
  obtain ⟨i, hi, rfl⟩ := List.mem_map.1 ((dst_mem _ k).1 hk)
  show kyI ps f g ((kyI ps f g i % 150).toNat) = kyI ps f g i
  rw [kyI_mod hV (List.mem_range.1 hi)]
theorem ordL_sorted (hV : InV ps f g) : (ordL ps f g).Pairwise fun i j => kyI ps f g i < kyI ps f g j := by
  have h := dst_lt (keyL ps f g)
  rw [← ordL_keys hV, List.pairwise_map] at h
  exact h
theorem plc_lt (hV : InV ps f g) {i : Nat} (hi : i < ps.length) : plc ps f g i < ps.length := by
  have := cnt_lt (dst_lt (keyL ps f g)) (kyI_mem hi)
  rwa [dstK_length hV] at this
theorem ordL_at (hV : InV ps f g) {i : Nat} (hi : i < ps.length) : (ordL ps f g)[plc ps f g i]? = some i := by
  have h := at_cnt (dst_lt (keyL ps f g)) (kyI_mem hi)
  unfold ordL plc
  rw [List.getElem?_map, h]
  exact congrArg some (kyI_mod hV hi)
theorem plc_at (hV : InV ps f g) {p i : Nat} (h : (ordL ps f g)[p]? = some i) : plc ps f g i = p := by
  have hi := (ordL_mem hV).1 (List.mem_of_getElem? h)
  have h2 : (dst (keyL ps f g))[p]? = some (kyI ps f g i) := by rw [← ordL_keys hV, List.getElem?_map, h]; rfl
  exact cnt_at (dst_lt _) h2
/-- Counting in a strictly increasing list keeps the order. -/
theorem cnt_iff {s : List Int} (hs : s.Pairwise (· < ·)) {x : Int} (h : x ∈ s) (y : Int) : cntL s x < cntL s y ↔ x < y := by
  have mono : ∀ a b : Int, a ≤ b → cntL s a ≤ cntL s b := fun a b hab => List.countP_mono_left fun z _ hz => by simp only [decide_eq_true_eq] at hz ⊢; omega
  constructor
  · intro hl
    rcases Int.lt_or_le x y with g | g
    · exact g
    · have := mono y x g; omega
  · intro hl
    have h1 := cnt_next hs h
    have h2 := mono (x + 1) y (by omega)
    omega
theorem plc_iff {i j : Nat} (hi : i < ps.length) : plc ps f g i < plc ps f g j ↔ kyI ps f g i < kyI ps f g j := cnt_iff (dst_lt _) (kyI_mem hi) _
theorem plc_cut (hV : InV ps f g) {i : Nat} (hi : i < ps.length) (c : Int) : plc ps f g i < cntL (dst (keyL ps f g)) (keyI c (-1048576) 0) ↔ f (ptAt ps i) < c := (cnt_iff (dst_lt _) (kyI_mem hi) _).trans (kyI_cut hV hi c)
theorem plc_inj (hV : InV ps f g) {i j : Nat} (hi : i < ps.length) (hj : j < ps.length) (h : plc ps f g i = plc ps f g j) : i = j := by
  have h1 := ordL_at hV hi
  rw [h, ordL_at hV hj] at h1
  exact (Option.some.inj h1).symm

/-! ### A range of an order -/
def clampC (c : Int) : Int := min (max c (-1048576)) 1048577
def loS (ps : List Pt3) (f g : Pt3 → Int) (low : Int) : Nat := cntL (dst (keyL ps f g)) (keyI (clampC low) (-1048576) 0)
def hiS (ps : List Pt3) (f g : Pt3 → Int) (low high : Int) : Nat := max (loS ps f g low) (loS ps f g (min high 1048576 + 1))
theorem loS_le (hV : InV ps f g) (low : Int) : loS ps f g low ≤ ps.length := by
  have := cntL_le (dst (keyL ps f g)) (keyI (clampC low) (-1048576) 0)
  rwa [dstK_length hV] at this
theorem hiS_le (hV : InV ps f g) (low high : Int) : hiS ps f g low high ≤ ps.length := Nat.max_le.2 ⟨loS_le hV _, loS_le hV _⟩
theorem loS_hiS (low high : Int) : loS ps f g low ≤ hiS ps f g low high := Nat.le_max_left _ _
theorem loS_iff (hV : InV ps f g) {i : Nat} (hi : i < ps.length) (low : Int) : plc ps f g i < loS ps f g low ↔ f (ptAt ps i) < low := by
  have h1 := plc_cut hV hi (clampC low)
  have h2 := hV.fst i hi
  unfold loS
  rw [h1]
  unfold clampC InC at *
  omega
theorem span_iff (hV : InV ps f g) {i : Nat} (hi : i < ps.length) (low high : Int) : (loS ps f g low ≤ plc ps f g i ∧ plc ps f g i < hiS ps f g low high) ↔ (low ≤ f (ptAt ps i) ∧ f (ptAt ps i) ≤ high) := by
  have h1 := loS_iff hV hi low
  have h2 := loS_iff hV hi (min high 1048576 + 1)
  have h3 := hV.fst i hi
  unfold hiS
  unfold InC at h3
  generalize loS ps f g low = a at *
  generalize loS ps f g (min high 1048576 + 1) = b at *
  generalize plc ps f g i = p at *
  generalize f (ptAt ps i) = x at *
  constructor
  · rintro ⟨e1, e2⟩
    have h4 : ¬ x < low := fun h => by have := h1.2 h; omega
    have h5 : p < b := by omega
    have := h2.1 h5
    omega
  · rintro ⟨e1, e2⟩
    have h4 : ¬ p < a := fun h => by have := h1.1 h; omega
    have h5 : p < b := h2.2 (by omega)
    omega

/-- A part of a list, told by places. -/
theorem part_filter {l : List Nat} {pos : Nat → Nat} (hp : ∀ (p i : Nat), l[p]? = some i → pos i = p) (a b : Nat) (hab : a ≤ b) :
    (l.drop a).take (b - a) = l.filter fun i => decide (a ≤ pos i) && decide (pos i < b) := by
  have sp : l = l.take a ++ ((l.drop a).take (b - a) ++ (l.drop a).drop (b - a)) := by rw [List.take_append_drop, List.take_append_drop]
  conv => rhs; rw [sp, List.filter_append, List.filter_append]
  have h1 : (l.take a).filter (fun i => decide (a ≤ pos i) && decide (pos i < b)) = [] := List.filter_eq_nil_iff.2 fun i hi => by
    obtain ⟨q, hq⟩ := List.getElem?_of_mem hi
    rw [List.getElem?_take] at hq
    split at hq
    · have := hp q i hq
      simp only [Bool.and_eq_true, decide_eq_true_eq]
      omega
    · cases hq
  have h2 : ((l.drop a).take (b - a)).filter (fun i => decide (a ≤ pos i) && decide (pos i < b)) = (l.drop a).take (b - a) := List.filter_eq_self.2 fun i hi => by
    obtain ⟨q, hq⟩ := List.getElem?_of_mem hi
    rw [List.getElem?_take] at hq
    split at hq
    · rw [List.getElem?_drop] at hq
      have := hp _ i hq
      simp only [Bool.and_eq_true, decide_eq_true_eq]
      omega
    · cases hq
  have h3 : ((l.drop a).drop (b - a)).filter (fun i => decide (a ≤ pos i) && decide (pos i < b)) = [] := List.filter_eq_nil_iff.2 fun i hi => by
    obtain ⟨q, hq⟩ := List.getElem?_of_mem hi
    rw [List.getElem?_drop, List.getElem?_drop] at hq
    have := hp _ i hq
    simp only [Bool.and_eq_true, decide_eq_true_eq]
    omega
  rw [h1, h2, h3, List.nil_append, List.append_nil]

/-! ### One list sorted so, places of equals rising -/
theorem stable_is {lt : Nat → Nat → Bool} (hS : SWO lt) {l k : List Nat} (hl : l.Pairwise (· < ·)) (hp : k.Perm l) (hk : k.Pairwise fun x y => lt y x = false ∧ (lt x y = false → x < y)) : k = ssort lt l := by
  refine sorted_one hS k (ssort lt l) (hk.imp fun h => h.1) (ssort_sorted hS l) fun x => ?_
  rw [ssort_filter hS]
  have h1 : (k.filter (eqv lt x)).Pairwise (· < ·) := by
    refine List.Pairwise.imp_of_mem (fun {a b} ha hb hab => ?_) (hk.filter (eqv lt x))
    have ea := eqv_iff.1 (List.mem_filter.1 ha).2
    have eb := eqv_iff.1 (List.mem_filter.1 hb).2
    exact hab.2 (hS.ntrans _ _ _ ea.2 eb.1)
  have h2 : (l.filter (eqv lt x)).Pairwise (· < ·) := hl.filter _
  exact List.Perm.eq_of_pairwise (le := (· < ·)) (fun a b _ _ h1 h2 => by omega) h1 h2 (hp.filter _)
/-- A count parted. -/
theorem countP_part {l : List Nat} {p q s : Nat → Bool} (h : ∀ i ∈ l, (q i = true ∧ s i = false ∧ p i = true) ∨ (q i = false ∧ s i = true ∧ p i = true) ∨ (q i = false ∧ s i = false ∧ p i = false)) : l.countP p = l.countP q + l.countP s := by
  induction l with
  | nil => rfl
  | cons i l ih =>
    rw [List.countP_cons, List.countP_cons, List.countP_cons, ih fun j hj => h j (List.mem_cons_of_mem _ hj)]
    rcases h i (List.mem_cons_self ..) with ⟨a, b, c⟩ | ⟨a, b, c⟩ | ⟨a, b, c⟩ <;> rw [a, b, c] <;> simp <;> omega

/-- An order goes by the first coordinate, then by the second. -/
def Lex (lt : Pt3 → Pt3 → Bool) (f g : Pt3 → Int) : Prop := ∀ p q, lt p q = true ↔ f p < f q ∨ (f p = f q ∧ g p < g q)
theorem lexX : Lex ltX Pt3.x Pt3.y := fun _ _ => ltX_iff
theorem lexY : Lex ltY Pt3.y Pt3.x := fun _ _ => ltY_iff
theorem ord_filter {lt : Pt3 → Pt3 → Bool} (hS : SWO lt) (hL : Lex lt f g) (hV : InV ps f g) (P : Nat → Bool) : (ordL ps f g).filter P = ssort (ltP ps lt) ((List.range ps.length).filter P) := by
  refine stable_is (ltP_swo hS) (List.pairwise_lt_range.filter _) ((ordL_perm hV).filter P) ?_
  refine List.Pairwise.imp_of_mem (fun {i j} hi hj hij => ?_) ((ordL_sorted hV).filter P)
  have ai := (ordL_mem hV).1 (List.mem_filter.1 hi).1
  have aj := (ordL_mem hV).1 (List.mem_filter.1 hj).1
  have h := (kyI_lt hV ai aj).1 hij
  have h1 := hL (ptAt ps i) (ptAt ps j)
  have h2 := hL (ptAt ps j) (ptAt ps i)
  unfold ltP
  refine ⟨?_, fun e => ?_⟩
  · rw [Bool.eq_false_iff, ne_eq, h2]; omega
  · rw [Bool.eq_false_iff, ne_eq, h1] at e; omega
end Go.Proofs.YtpkclmfadlkbeaaDoor

namespace Go.Proofs.YtpkclmfadlkbeaaDoor.Words
open Go Go.RowKit

/-- How many zeros a level of n bits has. -/
def zr (n : Nat) (b : Nat → Bool) : Nat := n - tally b n
/-- Where the next level has the number at place i. -/
def tos (n : Nat) (b : Nat → Bool) (i : Nat) : Nat := if b i then zr n b + tally b i else i - tally b i
/-- The number at place i of the first of these levels. -/
def val (n : Nat) : List (Nat → Bool) → Nat → Nat
  | [], _ => 0
  | b :: bs, i => (b i).toNat * 2 ^ bs.length + val n bs (tos n b i)

theorem val_lt (n : Nat) (bs : List (Nat → Bool)) : ∀ i, val n bs i < 2 ^ bs.length := by
  induction bs with
  | nil => intro i; simp [val]
  | cons b bs ih =>
    intro i
    have := ih (tos n b i)
    rw [val, List.length_cons, Nat.pow_succ]
    cases b i <;> simp <;> omega

/-- How many of the numbers of the places from f to t - 1 have the property. -/
def num (n : Nat) (bs : List (Nat → Bool)) (p : Nat → Bool) (f t : Nat) : Int := (tally (fun i => p (val n bs i)) t : Int) - (tally (fun i => p (val n bs i)) f : Int)

theorem part_tally (n : Nat) (b : Nat → Bool) (bs : List (Nat → Bool)) (p : Nat → Bool) (t : Nat) :
    tally (fun i => p (val n (b :: bs) i)) t + tally (fun j => p (2 ^ bs.length + val n bs j)) (zr n b) =
      tally (fun j => p (val n bs j)) (t - tally b t) + tally (fun j => p (2 ^ bs.length + val n bs j)) (zr n b + tally b t) := by
  induction t with
  | zero => simp [tally]
  | succ t ih =>
    have hle := tally_le b t
    rw [tally_succ (fun i => p (val n (b :: bs) i)), tally_succ b]
    cases hb : b t
    · have e : val n (b :: bs) t = val n bs (t - tally b t) := by rw [val, tos, hb]; simp
      rw [e]
      simp only [Bool.toNat_false, Nat.add_zero]
      rw [show t + 1 - tally b t = (t - tally b t) + 1 by omega, tally_succ]
      omega
    · have e : val n (b :: bs) t = 2 ^ bs.length + val n bs (zr n b + tally b t) := by rw [val, tos, hb]; simp
      rw [e]
      simp only [Bool.toNat_true]
      rw [show t + 1 - (tally b t + 1) = t - tally b t by omega, ← Nat.add_assoc, tally_succ (fun j => p (2 ^ bs.length + val n bs j))]
      omega

/-- A level parts the numbers of a range. -/
theorem num_part (n : Nat) (b : Nat → Bool) (bs : List (Nat → Bool)) (p : Nat → Bool) (f t : Nat) :
    num n (b :: bs) p f t = num n bs p (f - tally b f) (t - tally b t) + num n bs (fun v => p (2 ^ bs.length + v)) (zr n b + tally b f) (zr n b + tally b t) := by
  have h1 := part_tally n b bs p f
  have h2 := part_tally n b bs p t
  simp only [num]
  omega

theorem tally_all (p : Nat → Bool) (t : Nat) (h : ∀ i, i < t → p i = true) : tally p t = t := by
  induction t with
  | zero => rfl
  | succ t ih => rw [tally, ih fun i hi => h i (by omega), h t (by omega)]; rfl
theorem tally_none (p : Nat → Bool) (t : Nat) (h : ∀ i, i < t → p i = false) : tally p t = 0 := by
  induction t with
  | zero => rfl
  | succ t ih => rw [tally, ih fun i hi => h i (by omega), h t (by omega)]; rfl
theorem num_all (n : Nat) (bs : List (Nat → Bool)) (p : Nat → Bool) (f t : Nat) (h : ∀ v, v < 2 ^ bs.length → p v = true) : num n bs p f t = (t : Int) - f := by
  unfold num
  rw [tally_all _ t fun i _ => h _ (val_lt n bs i), tally_all _ f fun i _ => h _ (val_lt n bs i)]
theorem num_none (n : Nat) (bs : List (Nat → Bool)) (p : Nat → Bool) (f t : Nat) (h : ∀ v, v < 2 ^ bs.length → p v = false) : num n bs p f t = 0 := by
  unfold num
  rw [tally_none _ t fun i _ => h _ (val_lt n bs i), tally_none _ f fun i _ => h _ (val_lt n bs i)]; rfl
theorem num_congr (n : Nat) (bs : List (Nat → Bool)) (p q : Nat → Bool) (f t : Nat) (h : ∀ v, v < 2 ^ bs.length → p v = q v) : num n bs p f t = num n bs q f t := by
  unfold num
  rw [tally_congr (q := fun i => q (val n bs i)) (n := t) fun i _ => h _ (val_lt n bs i), tally_congr (q := fun i => q (val n bs i)) (n := f) fun i _ => h _ (val_lt n bs i)]

theorem tally_step_le (p : Nat → Bool) (f t : Nat) (h : f ≤ t) : tally p t ≤ tally p f + (t - f) := by
  obtain ⟨c, rfl⟩ := Nat.exists_eq_add_of_le h
  rw [tally_add]
  have := tally_le (fun i => p (f + i)) c
  omega
theorem num_nonneg (n : Nat) (bs : List (Nat → Bool)) (p : Nat → Bool) (f t : Nat) (h : f ≤ t) : 0 ≤ num n bs p f t := by
  unfold num
  have := tally_mono (fun i => p (val n bs i)) h
  omega
theorem num_le (n : Nat) (bs : List (Nat → Bool)) (p : Nat → Bool) (f t : Nat) (h : f ≤ t) : num n bs p f t ≤ (t : Int) - f := by
  unfold num
  have := tally_step_le (fun i => p (val n bs i)) f t h
  omega
/-- How many differ less where less have the property. -/
theorem tally_imp (p q : Nat → Bool) (h : ∀ i, p i = true → q i = true) (f t : Nat) (hft : f ≤ t) : (tally p t : Int) - tally p f ≤ (tally q t : Int) - tally q f := by
  obtain ⟨c, rfl⟩ := Nat.exists_eq_add_of_le hft
  rw [tally_add, tally_add]
  have : tally (fun i => p (f + i)) c ≤ tally (fun i => q (f + i)) c := by
    clear hft
    induction c with
    | zero => simp [tally]
    | succ c ih =>
      rw [tally, tally]
      cases hp : p (f + c)
      · simp; omega
      · rw [h _ hp]; simp; omega
  omega
theorem num_imp (n : Nat) (bs : List (Nat → Bool)) (p q : Nat → Bool) (h : ∀ v, p v = true → q v = true) (f t : Nat) (hft : f ≤ t) : num n bs p f t ≤ num n bs q f t := by
  unfold num
  exact tally_imp _ _ (fun i => h _) f t hft

/-- How many are less than x. -/
def less (n : Nat) (bs : List (Nat → Bool)) (x : Nat) (f t : Nat) : Int := num n bs (fun v => decide (v < x)) f t
/-- How many are x. -/
def same (n : Nat) (bs : List (Nat → Bool)) (x : Nat) (f t : Nat) : Int := num n bs (fun v => decide (v = x)) f t

theorem less_mono (n : Nat) (bs : List (Nat → Bool)) (x y : Nat) (h : x ≤ y) (f t : Nat) (hft : f ≤ t) : less n bs x f t ≤ less n bs y f t :=
  num_imp n bs _ _ (fun v hv => by simp at hv ⊢; omega) f t hft
theorem less_big (n : Nat) (bs : List (Nat → Bool)) (x : Nat) (h : 2 ^ bs.length ≤ x) (f t : Nat) : less n bs x f t = (t : Int) - f := num_all n bs _ f t fun v hv => by simp; omega
theorem same_big (n : Nat) (bs : List (Nat → Bool)) (x : Nat) (h : 2 ^ bs.length ≤ x) (f t : Nat) : same n bs x f t = 0 := num_none n bs _ f t fun v hv => by simp; omega
theorem less_zero (n : Nat) (bs : List (Nat → Bool)) (f t : Nat) : less n bs 0 f t = 0 := num_none n bs _ f t fun v hv => by simp
theorem less_nonneg (n : Nat) (bs : List (Nat → Bool)) (x f t : Nat) (h : f ≤ t) : 0 ≤ less n bs x f t := num_nonneg _ _ _ _ _ h
theorem less_le (n : Nat) (bs : List (Nat → Bool)) (x f t : Nat) (h : f ≤ t) : less n bs x f t ≤ (t : Int) - f := num_le _ _ _ _ _ h
theorem less_nil (n f t : Nat) : less n [] 0 f t = 0 := less_zero n [] f t
theorem same_nil (n f t : Nat) : same n [] 0 f t = (t : Int) - f := num_all n [] _ f t fun v hv => by simp at hv ⊢; exact hv

/-- One level of a comparison: the digit is 0. -/
theorem less_zero_digit (n : Nat) (b : Nat → Bool) (bs : List (Nat → Bool)) (x : Nat) (hx : x < 2 ^ bs.length) (f t : Nat) :
    less n (b :: bs) x f t = less n bs x (f - tally b f) (t - tally b t) := by
  unfold less
  rw [num_part, num_none n bs (fun v => decide (2 ^ bs.length + v < x)) _ _ (fun v _ => by simp; omega)]
  omega
theorem same_zero_digit (n : Nat) (b : Nat → Bool) (bs : List (Nat → Bool)) (x : Nat) (hx : x < 2 ^ bs.length) (f t : Nat) :
    same n (b :: bs) x f t = same n bs x (f - tally b f) (t - tally b t) := by
  unfold same
  rw [num_part, num_none n bs (fun v => decide (2 ^ bs.length + v = x)) _ _ (fun v _ => by simp; omega)]
  omega
/-- .. the digit is 1. -/
theorem less_one_digit (n : Nat) (b : Nat → Bool) (bs : List (Nat → Bool)) (x : Nat) (f t : Nat) :
    less n (b :: bs) (2 ^ bs.length + x) f t = ((t - tally b t : Nat) : Int) - ((f - tally b f : Nat) : Int) + less n bs x (zr n b + tally b f) (zr n b + tally b t) := by
  unfold less
  rw [num_part, num_all n bs (fun v => decide (v < 2 ^ bs.length + x)) _ _ (fun v _ => by simp; omega), num_congr n bs (fun v => decide (2 ^ bs.length + v < 2 ^ bs.length + x)) (fun v => decide (v < x)) _ _ (fun v _ => by simp)]
theorem same_one_digit (n : Nat) (b : Nat → Bool) (bs : List (Nat → Bool)) (x : Nat) (f t : Nat) :
    same n (b :: bs) (2 ^ bs.length + x) f t = same n bs x (zr n b + tally b f) (zr n b + tally b t) := by
  unfold same
  rw [num_part, num_none n bs (fun v => decide (v = 2 ^ bs.length + x)) _ _ (fun v _ => by simp; omega), num_congr n bs (fun v => decide (2 ^ bs.length + v = 2 ^ bs.length + x)) (fun v => decide (v = x)) _ _ (fun v _ => by simp)]
  omega

/-- The number with index k in the sorted list of the numbers from f to t - 1. -/
def kv (n : Nat) : List (Nat → Bool) → Nat → Nat → Nat → Nat
  | [], _, _, _ => 0
  | b :: bs, f, t, k =>
    if k < (t - tally b t) - (f - tally b f) then kv n bs (f - tally b f) (t - tally b t) k
    else 2 ^ bs.length + kv n bs (zr n b + tally b f) (zr n b + tally b t) (k - ((t - tally b t) - (f - tally b f)))

theorem kv_lt (n : Nat) (bs : List (Nat → Bool)) : ∀ f t k, kv n bs f t k < 2 ^ bs.length := by
  induction bs with
  | nil => intro f t k; simp [kv]
  | cons b bs ih =>
    intro f t k
    rw [kv, List.length_cons, Nat.pow_succ]
    split
    · have := ih (f - tally b f) (t - tally b t) k; omega
    · have := ih (zr n b + tally b f) (zr n b + tally b t) (k - ((t - tally b t) - (f - tally b f))); omega

theorem zeros_mono (b : Nat → Bool) {f t : Nat} (h : f ≤ t) : f - tally b f ≤ t - tally b t := by
  have := tally_step_le b f t h
  have := tally_le b f
  omega

theorem kv_spec (n : Nat) (bs : List (Nat → Bool)) : ∀ f t k, f ≤ t → k < t - f → less n bs (kv n bs f t k) f t ≤ k ∧ (k : Int) < less n bs (kv n bs f t k + 1) f t := by
  induction bs with
  | nil =>
    intro f t k h hk
    rw [kv, less_zero, less_big n [] (0 + 1) (by simp) f t]
    omega
  | cons b bs ih =>
    intro f t k h hk
    have hz := zeros_mono b h
    have ho := tally_mono b h
    have hl1 := tally_le b f
    have hl2 := tally_le b t
    rw [kv]
    split
    · rename_i hlt
      have hv := kv_lt n bs (f - tally b f) (t - tally b t) k
      obtain ⟨h1, h2⟩ := ih (f - tally b f) (t - tally b t) k hz hlt
      refine ⟨by rw [less_zero_digit n b bs _ hv]; exact h1, ?_⟩
      by_cases hs : kv n bs (f - tally b f) (t - tally b t) k + 1 < 2 ^ bs.length
      · rw [less_zero_digit n b bs _ hs]; exact h2
      · rw [show kv n bs (f - tally b f) (t - tally b t) k + 1 = 2 ^ bs.length + 0 by omega, less_one_digit, less_zero]
        omega
    · rename_i hlt
      obtain ⟨h1, h2⟩ := ih (zr n b + tally b f) (zr n b + tally b t) (k - ((t - tally b t) - (f - tally b f))) (by omega) (by omega)
      rw [less_one_digit, Nat.add_assoc, less_one_digit]
      omega

/-- There is one such number alone. -/
theorem kth_unique (n : Nat) (bs : List (Nat → Bool)) (f t : Nat) (k : Int) (u v : Nat) (h : f ≤ t) (h1 : less n bs u f t ≤ k) (h2 : k < less n bs (u + 1) f t) (g1 : less n bs v f t ≤ k) (g2 : k < less n bs (v + 1) f t) : u = v := by
  rcases Nat.lt_trichotomy u v with e | e | e
  · have := less_mono n bs (u + 1) v e f t h; omega
  · exact e
  · have := less_mono n bs (v + 1) u e f t h; omega

/-- Among the numbers of a range that are counted is one. -/
theorem tally_some (p : Nat → Bool) (f t : Nat) (h : tally p f < tally p t) : ∃ i, f ≤ i ∧ i < t ∧ p i = true := by
  induction t with
  | zero => simp [tally] at h
  | succ t ih =>
    rw [tally] at h
    by_cases hft : f ≤ t
    · cases hp : p t
      · rw [hp] at h
        obtain ⟨i, h1, h2, h3⟩ := ih (by simpa using h)
        exact ⟨i, h1, by omega, h3⟩
      · exact ⟨t, hft, by omega, hp⟩
    · have := tally_mono p (show t + 1 ≤ f by omega)
      rw [tally] at this; omega
theorem num_some (n : Nat) (bs : List (Nat → Bool)) (p : Nat → Bool) (f t : Nat) (h : 0 < num n bs p f t) : ∃ i, f ≤ i ∧ i < t ∧ p (val n bs i) = true := by
  unfold num at h
  exact tally_some _ f t (by omega)

theorem same_less (n : Nat) (bs : List (Nat → Bool)) (x f t : Nat) : less n bs (x + 1) f t = less n bs x f t + same n bs x f t := by
  have key : ∀ m, tally (fun i => decide (val n bs i < x + 1)) m = tally (fun i => decide (val n bs i < x)) m + tally (fun i => decide (val n bs i = x)) m := by
    intro m
    induction m with
    | zero => rfl
    | succ m ih =>
      rw [tally, tally, tally, ih]
      rcases Nat.lt_trichotomy (val n bs m) x with e | e | e
      · simp [show val n bs m < x + 1 by omega, e, show ¬ val n bs m = x by omega]; omega
      · simp [e]; omega
      · simp [show ¬ val n bs m < x + 1 by omega, show ¬ val n bs m < x by omega, show ¬ val n bs m = x by omega]
  simp only [less, same, num]
  rw [key t, key f]
  omega

/-- The number of one place. -/
theorem kv_one (n : Nat) (bs : List (Nat → Bool)) (i : Nat) : kv n bs i (i + 1) 0 = val n bs i := by
  obtain ⟨h1, h2⟩ := kv_spec n bs i (i + 1) 0 (by omega) (by omega)
  refine kth_unique n bs i (i + 1) 0 _ _ (by omega) h1 h2 ?_ ?_
  · simp [less, num, tally]
  · simp [less, num, tally]; omega

theorem num_cut (n : Nat) (bs : List (Nat → Bool)) (p : Nat → Bool) (f m t : Nat) : num n bs p f m + num n bs p m t = num n bs p f t := by unfold num; omega
end Go.Proofs.YtpkclmfadlkbeaaDoor.Words

namespace Go.Proofs.YtpkclmfadlkbeaaDoor.Words
open Go Go.RowKit

/-- The numbers in the order of the next level. -/
def nxt (p : Nat) (l : List Nat) : List Nat := l.filter (fun x => !x.testBit p) ++ l.filter (fun x => x.testBit p)
/-- The bits of a level. -/
def digs10 (p : Nat) (l : List Nat) : List Bool := l.map fun x => x.testBit p
/-- The levels of the matrix of a list. -/
def levs : Nat → List Nat → List (List Bool)
  | 0, _ => []
  | L + 1, l => digs10 L l :: levs L (nxt L l)
/-- A level as a function. -/
def lf (r : List Bool) : Nat → Bool := fun i => r.getD i false

theorem bit_rowOf (r : List Bool) : bit (rowOf r) = lf r := by
  funext i
  by_cases h : i < 64 * ((r.length + 63) / 64)
  · exact rowOf_bit r i h
  · unfold bit lf
    rw [List.getD_eq_getElem?_getD, List.getD_eq_getElem?_getD, List.getElem?_eq_none (show (rowOf r).length ≤ i / 64 by rw [rowOf_length]; omega), List.getElem?_eq_none (show r.length ≤ i by omega)]
    simp

theorem nxt_length (p : Nat) (l : List Nat) : (nxt p l).length = l.length := by
  unfold nxt
  rw [List.length_append, ← List.countP_eq_length_filter, ← List.countP_eq_length_filter]
  induction l with
  | nil => rfl
  | cons x l ih => rw [List.countP_cons, List.countP_cons, List.length_cons]; cases x.testBit p <;> simp <;> omega
theorem levs_length (L : Nat) : ∀ l, (levs L l).length = L := by
  induction L with
  | zero => intro l; rfl
  | succ L ih => intro l; simp [levs, ih]
theorem levs_each (L : Nat) : ∀ l, ∀ r ∈ levs L l, r.length = l.length := by
  induction L with
  | zero => intro l r h; simp [levs] at h
  | succ L ih =>
    intro l r h
    rw [levs, List.mem_cons] at h
    rcases h with rfl | h
    · simp [digs10]
    · rw [ih _ r h, nxt_length]

theorem tally_count (l : List Nat) (p : Nat → Bool) (i : Nat) : tally (lf (l.map p)) i = (l.take i).countP p := by
  induction i with
  | zero => rfl
  | succ i ih =>
    rw [tally, ih]
    by_cases h : i < l.length
    · rw [List.take_succ_eq_append_getElem h, List.countP_append, List.countP_singleton]
      simp only [lf, List.getD_eq_getElem?_getD, List.getElem?_map, List.getElem?_eq_getElem h, Option.map_some, Option.getD_some]
      cases p l[i] <;> rfl
    · rw [List.take_of_length_le (by omega), List.take_of_length_le (by omega)]
      simp [lf, List.getD_eq_getElem?_getD, List.getElem?_eq_none (show l.length ≤ i by omega)]

theorem filter_at (l : List Nat) (p : Nat → Bool) (i x : Nat) (h : l[i]? = some x) (hp : p x = true) : (l.filter p)[(l.take i).countP p]? = some x := by
  obtain ⟨hi, rfl⟩ := List.getElem?_eq_some_iff.1 h
  have e : l.filter p = (l.take i).filter p ++ (l.drop i).filter p := by rw [← List.filter_append, List.take_append_drop]
  rw [e, List.getElem?_append_right (by rw [List.countP_eq_length_filter]; exact Nat.le_refl _), List.countP_eq_length_filter, Nat.sub_self, List.drop_eq_getElem_cons hi, List.filter_cons_of_pos hp]
  rfl

/-- Where the next level has a number. -/
theorem nxt_at (p : Nat) (l : List Nat) (i x : Nat) (h : l[i]? = some x) : (nxt p l)[tos l.length (lf (digs10 p l)) i]? = some x := by
  obtain ⟨hi, hx⟩ := List.getElem?_eq_some_iff.1 h
  have hb : lf (digs10 p l) i = x.testBit p := by simp [lf, digs10, List.getD_eq_getElem?_getD, List.getElem?_map, h]
  have hn : ∀ m, tally (lf (digs10 p l)) m = (l.take m).countP (fun x => x.testBit p) := fun m => tally_count l _ m
  have hc : ∀ m, (l.take m).countP (fun x => !x.testBit p) + (l.take m).countP (fun x => x.testBit p) = (l.take m).length := by
    intro m
    induction l.take m with
    | nil => rfl
    | cons y t ih => rw [List.countP_cons, List.countP_cons, List.length_cons]; cases y.testBit p <;> simp <;> omega
  have hc1 := hc i
  have hc2 := hc l.length
  rw [List.take_length] at hc2
  rw [List.length_take, Nat.min_eq_left (by omega)] at hc1
  unfold tos zr
  rw [hb, hn, hn, List.take_length]
  unfold nxt
  cases hp : x.testBit p
  · rw [if_neg (by simp)]
    have hf := filter_at l (fun x => !x.testBit p) i x h (by simp [hp])
    rw [show i - (l.take i).countP (fun x => x.testBit p) = (l.take i).countP (fun x => !x.testBit p) by omega]
    rw [List.getElem?_append_left (List.getElem?_eq_some_iff.1 hf).1]
    exact hf
  · rw [if_pos rfl]
    have hf := filter_at l (fun x => x.testBit p) i x h hp
    rw [List.getElem?_append_right (by rw [← List.countP_eq_length_filter]; omega), ← List.countP_eq_length_filter (p := fun x : Nat => !x.testBit p)]
    rw [show l.length - l.countP (fun x => x.testBit p) + (l.take i).countP (fun x => x.testBit p) - l.countP (fun x => !x.testBit p) = (l.take i).countP (fun x => x.testBit p) by omega]
    exact hf

/-- The matrix of a list has its numbers. -/
theorem val_levs (L : Nat) : ∀ (l : List Nat) (i x : Nat), l[i]? = some x → val l.length ((levs L l).map lf) i = x % 2 ^ L := by
  induction L with
  | zero => intro l i x h; simp [levs, val, Nat.mod_one]
  | succ L ih =>
    intro l i x h
    have hx := nxt_at L l i x h
    have hb : lf (digs10 L l) i = x.testBit L := by simp [lf, digs10, List.getD_eq_getElem?_getD, List.getElem?_map, h]
    have e := ih (nxt L l) _ x hx
    rw [nxt_length] at e
    rw [levs, List.map_cons, val, e, hb, List.length_map, levs_length, Nat.pow_succ, Nat.mod_mul, Nat.toNat_testBit, Nat.mul_comm, Nat.add_comm]

/-- The list of a matrix. -/
def lsI (n : Nat) (bs : List (Nat → Bool)) : List Int := (List.range n).map fun i => (val n bs i : Int)
theorem lsI_length (n : Nat) (bs : List (Nat → Bool)) : (lsI n bs).length = n := by simp [lsI]
theorem lsI_at (n : Nat) (bs : List (Nat → Bool)) (i : Nat) (h : i < n) : (lsI n bs)[i]? = some (val n bs i : Int) := by
  unfold lsI; rw [List.getElem?_map, List.getElem?_range h]; rfl
/-- A range of it. -/
def rng (n : Nat) (bs : List (Nat → Bool)) (a b : Nat) : List Int := ((lsI n bs).drop a).take (b - a)
theorem rng_length (n : Nat) (bs : List (Nat → Bool)) (a b : Nat) (hb : b ≤ n) : (rng n bs a b).length = b - a := by
  unfold rng; rw [List.length_take, List.length_drop, lsI_length]; omega

/-- How many are less than x, whatever x. -/
def lessI (n : Nat) (bs : List (Nat → Bool)) (x : Int) (f t : Nat) : Int := num n bs (fun v => decide ((v : Int) < x)) f t
def sameI (n : Nat) (bs : List (Nat → Bool)) (x : Int) (f t : Nat) : Int := num n bs (fun v => decide ((v : Int) = x)) f t
theorem lessI_nat (n : Nat) (bs : List (Nat → Bool)) (x f t : Nat) : lessI n bs (x : Int) f t = less n bs x f t := num_congr n bs _ _ f t fun v _ => by simp
theorem sameI_nat (n : Nat) (bs : List (Nat → Bool)) (x f t : Nat) : sameI n bs (x : Int) f t = same n bs x f t := num_congr n bs _ _ f t fun v _ => by simp; omega
theorem lessI_neg (n : Nat) (bs : List (Nat → Bool)) (x : Int) (h : x < 0) (f t : Nat) : lessI n bs x f t = 0 := num_none n bs _ f t fun v _ => by simp; omega
theorem sameI_neg (n : Nat) (bs : List (Nat → Bool)) (x : Int) (h : x < 0) (f t : Nat) : sameI n bs x f t = 0 := num_none n bs _ f t fun v _ => by simp; omega
theorem lessI_mono (n : Nat) (bs : List (Nat → Bool)) (x y : Int) (h : x ≤ y) (f t : Nat) (hft : f ≤ t) : lessI n bs x f t ≤ lessI n bs y f t :=
  num_imp n bs _ _ (fun v hv => by simp at hv ⊢; omega) f t hft
theorem lessI_succ (n : Nat) (bs : List (Nat → Bool)) (x f t : Nat) : lessI n bs ((x : Int) + 1) f t = less n bs (x + 1) f t := lessI_nat n bs (x + 1) f t

theorem tally_take (n : Nat) (bs : List (Nat → Bool)) (q : Int → Bool) (t : Nat) (h : t ≤ n) : tally (fun i => q (val n bs i : Int)) t = ((lsI n bs).take t).countP q := by
  induction t with
  | zero => rfl
  | succ t ih =>
    have hl : t < (lsI n bs).length := by rw [lsI_length]; omega
    have hg : (lsI n bs)[t] = (val n bs t : Int) := Option.some.inj ((List.getElem?_eq_getElem hl).symm.trans (lsI_at n bs t (by omega)))
    rw [tally, ih (by omega), List.take_succ_eq_append_getElem hl, List.countP_append, List.countP_singleton, hg]
    cases q (val n bs t : Int) <;> rfl
/-- Counting in a range is counting in its list. -/
theorem num_count (n : Nat) (bs : List (Nat → Bool)) (q : Int → Bool) (a b : Nat) (hab : a ≤ b) (hb : b ≤ n) : num n bs (fun v => q (v : Int)) a b = ((rng n bs a b).countP q : Int) := by
  unfold num
  rw [tally_take n bs q b hb, tally_take n bs q a (by omega)]
  have e : (lsI n bs).take b = (lsI n bs).take a ++ rng n bs a b := by
    have := List.take_add (l := lsI n bs) (i := a) (j := b - a)
    rw [show a + (b - a) = b by omega] at this
    exact this
  rw [e, List.countP_append]
  omega

/-- In a sorted list, the element with index k. -/
theorem sorted_kth (s : List Int) (h : s.Pairwise (· ≤ ·)) (k : Nat) (x : Int) (hx : s[k]? = some x) : s.countP (fun z => decide (z < x)) ≤ k ∧ k < s.countP (fun z => decide (z < x + 1)) := by
  obtain ⟨hk, rfl⟩ := List.getElem?_eq_some_iff.1 hx
  have e : s = s.take k ++ s[k] :: s.drop (k + 1) := by rw [← List.drop_eq_getElem_cons hk, List.take_append_drop]
  have hp := h
  rw [e, List.pairwise_append] at hp
  obtain ⟨_, hp2, hp3⟩ := hp
  rw [List.pairwise_cons] at hp2
  have hlen : (s.take k).length = k := by rw [List.length_take]; omega
  generalize s[k] = x at *
  generalize s.take k = t at *
  generalize s.drop (k + 1) = d at *
  subst e
  rw [List.countP_append, List.countP_append]
  constructor
  · have h0 : (x :: d).countP (fun z => decide (z < x)) = 0 := by
      rw [List.countP_eq_zero]
      intro z hz
      rcases List.mem_cons.1 hz with rfl | hz
      · simp
      · have := hp2.1 z hz; simp; omega
    have := List.countP_le_length (p := fun z : Int => decide (z < x)) (l := t)
    omega
  · have h1 : t.countP (fun z => decide (z < x + 1)) = t.length := by
      rw [List.countP_eq_length]
      intro z hz
      have := hp3 z hz x (by simp)
      simp; omega
    rw [h1, List.countP_cons_of_pos (by simp; omega)]
    omega

/-- In the sorted list of a range, the element with index k is what the matrix gives. -/
theorem sorted_kv (n : Nat) (bs : List (Nat → Bool)) (a b k : Nat) (hab : a ≤ b) (hb : b ≤ n) (s : List Int) (hs : s.Pairwise (· ≤ ·)) (hp : s.Perm (rng n bs a b)) (x : Int) (hx : s[k]? = some x) : x = (kv n bs a b k : Int) := by
  obtain ⟨h1, h2⟩ := sorted_kth s hs k x hx
  have hk : k < b - a := by have := (List.getElem?_eq_some_iff.1 hx).1; rw [hp.length_eq, rng_length n bs a b hb] at this; exact this
  have hm : x ∈ rng n bs a b := hp.mem_iff.1 (List.mem_of_getElem? hx)
  obtain ⟨v, rfl⟩ : ∃ v : Nat, x = v := by
    have h2 := List.mem_of_mem_drop (List.mem_of_mem_take hm)
    obtain ⟨i, _, rfl⟩ := List.mem_map.1 h2
    exact ⟨_, rfl⟩
  rw [hp.countP_eq, ← Int.ofNat_le, ← num_count n bs _ a b hab hb] at h1
  rw [hp.countP_eq, ← Int.ofNat_lt, ← num_count n bs _ a b hab hb] at h2
  have g1 : less n bs v a b ≤ k := by rw [← lessI_nat]; exact h1
  have g2 : (k : Int) < less n bs (v + 1) a b := by rw [← lessI_succ]; exact h2
  obtain ⟨f1, f2⟩ := kv_spec n bs a b k hab hk
  exact congrArg _ (kth_unique n bs a b k v _ hab g1 g2 f1 f2)

/-- Where the numbers of a sorted list come to x. -/
theorem sorted_cut (s : List Int) (hs : s.Pairwise (· ≤ ·)) (x : Int) (m : Nat) (hm : m ≤ s.length) (h1 : ∀ j z, j < m → s[j]? = some z → z < x) (h2 : ∀ z, s[m]? = some z → x ≤ z) : s.countP (fun z => decide (z < x)) = m := by
  have e : s.countP (fun z => decide (z < x)) = (s.take m).countP (fun z => decide (z < x)) + (s.drop m).countP (fun z => decide (z < x)) := by rw [← List.countP_append, List.take_append_drop]
  rw [e]
  have t1 : (s.take m).countP (fun z => decide (z < x)) = (s.take m).length := by
    rw [List.countP_eq_length]
    intro z hz
    obtain ⟨j, hj⟩ := List.getElem?_of_mem hz
    rw [List.getElem?_take] at hj
    split at hj
    · rename_i hjm; simpa using h1 j z hjm hj
    · cases hj
  have t2 : (s.drop m).countP (fun z => decide (z < x)) = 0 := by
    rw [List.countP_eq_zero]
    intro z hz
    rcases Nat.lt_or_ge m s.length with hl | hl
    · have hd := List.drop_eq_getElem_cons hl
      have hx := h2 _ (List.getElem?_eq_getElem hl)
      have hp : (s.drop m).Pairwise (· ≤ ·) := hs.sublist (List.drop_sublist _ _)
      rw [hd, List.pairwise_cons] at hp
      rw [hd] at hz
      rcases List.mem_cons.1 hz with rfl | hz
      · simp; omega
      · have := hp.1 z hz; simp; omega
    · rw [List.drop_eq_nil_of_le hl] at hz; cases hz
  rw [t1, t2, List.length_take]
  omega
end Go.Proofs.YtpkclmfadlkbeaaDoor.Words

namespace Go.Proofs.YtpkclmfadlkbeaaDoor
open Go.RowKit Go.ChangeShapes Go.WideShapes Go.Deep Words

/-- A level: its length, the address of its words, the words, their capacity. -/
structure Lev where
  n : Int
  adr : Option Addr
  ws : List Nat
  cap : Nat
instance : Inhabited Lev := ⟨⟨0, none, [], 0⟩⟩
/-- Its cells. -/
def Lev.cells (v : Lev) : List Value := [.int .i64 v.n, .slice v.adr v.ws.length v.cap]
def levC : List Lev → List Value
  | [] => []
  | o :: r => o.cells ++ levC r
theorem levC_length : ∀ os : List Lev, (levC os).length = os.length * 2
  | [] => rfl
  | o :: r => by
    unfold levC
    rw [List.length_append, levC_length r, List.length_cons]
    show 2 + r.length * 2 = _
    omega
theorem levC_get : ∀ (os : List Lev) (i : Nat) (o : Lev) (j : Nat), os[i]? = some o → j < 2 → (levC os)[i * 2 + j]? = o.cells[j]?
  | [], i, o, j, h, _ => by simp at h
  | a :: r, 0, o, j, h, hj => by
    obtain rfl : a = o := by simpa using h
    unfold levC
    rw [List.getElem?_append_left (by show 0 * 2 + j < 2; omega)]
    congr 1
    omega
  | a :: r, i + 1, o, j, h, hj => by
    unfold levC
    rw [List.getElem?_append_right (by show 2 ≤ (i + 1) * 2 + j; omega)]
    have e : (i + 1) * 2 + j - a.cells.length = i * 2 + j := by show (i + 1) * 2 + j - 2 = _; omega
    rw [e]
    exact levC_get r i o j (by simpa using h) hj
theorem levC_append (a b : List Lev) : levC (a ++ b) = levC a ++ levC b := by
  induction a with
  | nil => rfl
  | cons o r ih => show o.cells ++ levC (r ++ b) = (o.cells ++ levC r) ++ levC b; rw [ih, List.append_assoc]
theorem levC_one (os : List Lev) : ∀ u ∈ levC os, u.oneCell' = true := by
  induction os with
  | nil => intro u hu; cases hu
  | cons o r ih =>
    intro u hu
    unfold levC at hu
    rcases List.mem_append.1 hu with e | e
    · unfold Lev.cells at e
      simp only [List.mem_cons, List.not_mem_nil, or_false] at e
      rcases e with rfl | rfl <;> rfl
    · exact ih u e

/-- The slice with the address A holds the levels vs, all below block B. -/
structure Mat (w : World) (B : Nat) (A : Option Addr) (vs : List Lev) : Prop where
  heads : Lies w B A (levC vs)
  rows : ∀ v ∈ vs, Words64 w B v.adr v.ws
theorem Mat.nil {w : World} {B : Nat} {A : Option Addr} : Mat w B A [] := ⟨Lies.nil, fun _ h => by cases h⟩
theorem Mat.below {w w' : World} {B : Nat} {A : Option Addr} {rs : List Lev} (h : Mat w B A rs) (hb : Below B w w') : Mat w' B A rs := ⟨h.heads.below hb, fun r hr => (h.rows r hr).below hb⟩
theorem Mat.on {w w' : World} {A : Option Addr} {rs : List Lev} (h : Mat w w.heap.size A rs) (hb : Below w.heap.size w w') : Mat w' w'.heap.size A rs := ⟨h.heads.on hb, fun r hr => (h.rows r hr).on hb⟩
theorem Mat.alloc {w : World} {A : Option Addr} {rs : List Lev} (h : Mat w w.heap.size A rs) (o : Obj) : Mat (w.alloc o) (w.alloc o).heap.size A rs := ⟨h.heads.alloc o, fun r hr => (h.rows r hr).alloc o⟩
theorem Mat.drewN {w : World} {B : Nat} {A : Option Addr} {rs : List Lev} (h : Mat w B A rs) (n : Nat) : Mat (w.drewN n) B A rs := ⟨h.heads.drewN n, fun r hr => (h.rows r hr).drewN n⟩
theorem Mat.drew {w : World} {B : Nat} {A : Option Addr} {rs : List Lev} (h : Mat w B A rs) : Mat w.drew B A rs := ⟨h.heads.drew, fun r hr => (h.rows r hr).drew⟩
/-- A level, by its number. -/
theorem Mat.at_ {w : World} {B : Nat} {A : Option Addr} {vs : List Lev} (h : Mat w B A vs) {i : Nat} (hi : i < vs.length) :
    ∃ b p v, A = some ⟨b, p, none⟩ ∧ b < B ∧ vs[i]? = some v ∧ w.cell? ⟨b, p + i * 2, none⟩ = some (.int .i64 v.n) ∧ w.cell? ⟨b, p + i * 2 + 1, none⟩ = some (.slice v.adr v.ws.length v.cap) ∧ Words64 w B v.adr v.ws := by
  obtain ⟨b, p, e, hb, hc⟩ := h.heads (by
    intro e
    have := levC_length vs
    rw [e] at this
    simp at this
    omega)
  have hx : vs[i]? = some vs[i] := List.getElem?_eq_getElem hi
  refine ⟨b, p, vs[i], e, hb, hx, ?_, ?_, h.rows _ (List.getElem_mem hi)⟩
  · exact hc (i * 2) _ (levC_get vs i _ 0 hx (by decide))
  · rw [Nat.add_assoc]; exact hc (i * 2 + 1) _ (levC_get vs i _ 1 hx (by decide))

/-- What is known of a level that was handed in. -/
structure Lev.Fits (v : Lev) : Prop where
  wf : (Lit.int .i64 v.n).wf = true
  le : v.ws.length ≤ v.cap
  room : v.cap * 8 ≤ 140737488351232
  nil : v.adr = none → v.cap = 0

section
variable {H : Type} {enc : TypeId × Value → H} {P : Program} {w : World} {held : Bool}

/-- A slice of such structs. -/
theorem rd_levs {t e tw ew ti : TypeId} {f0 f1 : Field} {fuel : Nat} {cs : List Value} {x : DataW H × List MemPlace} (ht : P.underlying t = some (.slice e)) (hs : P.underlying e = some (.struct #[f0, f1])) (hC : P.cellsOf e = 2) (hby : P.bytesOf e = 32) (h0 : f0.type = ti) (h1 : f1.type = tw) (o0 : f0.offset = 0) (o1 : f1.offset = 1)
    (hi : P.underlying ti = some (.int .i64)) (ci : P.cellsOf ti = 1) (htw : P.underlying tw = some (.slice ew)) (ctw : P.cellsOf tw = 1) (hew : P.underlying ew = some (.int .u64)) (hcw : P.cellsOf ew = 1) (hbw : P.bytesOf ew = 8)
    (h : DataW.trod enc P w 0 (fun _ => true) held fuel t cs = some x) (hw : ∀ n ∈ x.1.weights P t, n ≤ reachBytes) :
    ∃ (A : Option Addr) (vs : List Lev) (c : Nat), cs = [.slice A vs.length c] ∧ vs.length ≤ c ∧ c * 32 ≤ 140737488351232 ∧ (A = none → c = 0) ∧ Mat w w.heap.size A vs ∧ ∀ v ∈ vs, v.Fits := by
  rcases open_slice ht h with ⟨rfl, rfl⟩ | ⟨a, len, cap, m, n, D, Pl, rfl, _, hl, _, hm, rfl, hx⟩
  · exact ⟨none, [], 0, rfl, Nat.le_refl _, by omega, fun _ => rfl, Mat.nil, fun o ho => by cases ho⟩
  · simp only [if_true] at hm
    subst hm
    rw [hC] at hx
    obtain ⟨B, hB⟩ := choose_lt (α := Lev) (n := len) (p := fun i o => o.Fits ∧ Words64 w w.heap.size o.adr o.ws ∧ ∀ j u, o.cells[j]? = some u → w.cell? ((a.add (i * 2)).add j) = some u) (fun i hlt => by
      obtain ⟨cs', hc, ht'⟩ := hx i (by omega)
      obtain ⟨z, A, ws, c, rfl, r0, r1, r2, r3, r4⟩ := rd_bits hs hC h0 h1 o0 o1 hi ci htw ctw hew hcw hbw ht' (fun k hk => hw k (by
        simp only [DataW.weights, ht, List.mem_cons, List.mem_append]
        right; left
        have hmem : D i ∈ (List.range len).map D := List.mem_map.2 ⟨i, List.mem_range.2 hlt, rfl⟩
        generalize (List.range len).map D = l at hmem
        induction l with
        | nil => cases hmem
        | cons d r ih =>
          rw [DataW.weightsAll, List.mem_append]
          rcases List.mem_cons.1 hmem with e | e
          · left; rw [← e]; exact hk
          · right; exact ih e))
      obtain ⟨_, hcl, hat⟩ := World.cells?_some hc
      refine ⟨⟨z, A, ws, c⟩, ⟨r0, r1, r2, r3⟩, r4, fun j u hu => ?_⟩
      have hj : j < 2 := (List.getElem?_eq_some_iff.1 hu).1
      rw [hat j hj]
      exact hu)
    have hlenB : ((List.range len).map B).length = len := by simp
    refine ⟨some a, (List.range len).map B, m, by rw [hlenB], by rw [hlenB]; exact hl, ?_, (fun e => by cases e), ⟨?_, ?_⟩, ?_⟩
    · have := hw ((((List.range len).map D).length + ((List.range (m - len)).map fun j => D (len + j)).length) * P.bytesOf e) (by simp [DataW.weights, ht])
      simp only [List.length_map, List.length_range, hby, reachBytes] at this
      rwa [show len + (m - len) = m by omega] at this
    · intro hne
      have hlp : 0 < len := by
        rcases Nat.eq_zero_or_pos len with e | e
        · subst e; exact absurd rfl hne
        · exact e
      obtain ⟨b, o, s⟩ := a
      have hc0 := (hB 0 hlp).2.2 0 _ rfl
      have hs0 : s = none := by simpa [Addr.add] using World.cell?_spot hc0
      subst hs0
      have hbl : b < w.heap.size := by simpa [Addr.add] using cell_lt hc0
      refine ⟨b, o, rfl, hbl, fun j v hv => ?_⟩
      have hj : j < len * 2 := by
        have h4 := (List.getElem?_eq_some_iff.1 hv).1
        rw [levC_length, hlenB] at h4
        exact h4
      have hq : j / 2 < len := by omega
      have hge : ((List.range len).map B)[j / 2]? = some (B (j / 2)) := by rw [List.getElem?_map, List.getElem?_range hq]; rfl
      have hg := levC_get _ (j / 2) _ (j % 2) hge (Nat.mod_lt _ (by decide))
      rw [show j / 2 * 2 + j % 2 = j by omega, hv] at hg
      have h5 := (hB (j / 2) hq).2.2 (j % 2) v hg.symm
      rw [Addr.add_lit, Addr.add_lit, show o + j / 2 * 2 + j % 2 = o + j by omega] at h5
      exact h5
    · intro o ho
      obtain ⟨i, hi2, rfl⟩ := List.mem_map.1 ho
      exact (hB i (List.mem_range.1 hi2)).2.1
    · intro o ho
      obtain ⟨i, hi2, rfl⟩ := List.mem_map.1 ho
      exact (hB i (List.mem_range.1 hi2)).1

/-- A struct of such a slice alone. -/
theorem rd_wave {t tl e tw ew ti : TypeId} {f0 f1 g : Field} {fuel : Nat} {cs : List Value} {x : DataW H × List MemPlace} (hst : P.underlying t = some (.struct #[g])) (hCt : P.cellsOf t = 1) (hg : g.type = tl) (og : g.offset = 0) (ctl : P.cellsOf tl = 1)
    (ht : P.underlying tl = some (.slice e)) (hs : P.underlying e = some (.struct #[f0, f1])) (hC : P.cellsOf e = 2) (hby : P.bytesOf e = 32) (h0 : f0.type = ti) (h1 : f1.type = tw) (o0 : f0.offset = 0) (o1 : f1.offset = 1)
    (hi : P.underlying ti = some (.int .i64)) (ci : P.cellsOf ti = 1) (htw : P.underlying tw = some (.slice ew)) (ctw : P.cellsOf tw = 1) (hew : P.underlying ew = some (.int .u64)) (hcw : P.cellsOf ew = 1) (hbw : P.bytesOf ew = 8)
    (h : DataW.trod enc P w 0 (fun _ => true) held fuel t cs = some x) (hw : ∀ n ∈ x.1.weights P t, n ≤ reachBytes) :
    ∃ (A : Option Addr) (vs : List Lev) (c : Nat), cs = [.slice A vs.length c] ∧ vs.length ≤ c ∧ c * 32 ≤ 140737488351232 ∧ (A = none → c = 0) ∧ Mat w w.heap.size A vs ∧ ∀ v ∈ vs, v.Fits := by
  obtain ⟨hl, hf⟩ := rd_struct hst h hw
  rw [hCt] at hl
  match cs, hl with
  | [c0], _ =>
    obtain ⟨m0, y0, g0, w0⟩ := hf 0 g rfl
    rw [hg, og, ctl] at g0
    rw [hg] at w0
    exact rd_levs ht hs hC hby h0 h1 o0 o1 hi ci htw ctw hew hcw hbw g0 w0
end
end Go.Proofs.YtpkclmfadlkbeaaDoor

namespace Go.Proofs.YtpkclmfadlkbeaaDoor.Words
open Go Go.RowKit

/-- What makes a packed array of n numbers with d bits each valid. -/
structure PValid (n d : Nat) (ws : List Nat) : Prop where
  hi : n ≤ 300
  wide : d ≤ 62
  len : ws.length = (n * d + 63) / 64
  top : ∀ i, n * d ≤ i → i < 64 * ws.length → bit ws i = false

theorem mul_bound {n d : Nat} (hn : n ≤ 300) (hd : d ≤ 62) : n * d ≤ 18600 := Nat.mul_le_mul hn hd

/-- Nothing beyond m, bit by bit. -/
theorem high_zero2 (x m : Nat) (hx : x < 18446744073709551616) : x / 2 ^ m = 0 ↔ ∀ i, m ≤ i → i < 64 → x.testBit i = false := by
  rw [← high_zero x m hx]
  constructor
  · intro h; rw [h]; simp
  · intro h
    rcases Nat.mul_eq_zero.1 h with h | h
    · exact h
    · have := Nat.two_pow_pos m; omega

/-- The test of the last word. -/
theorem pvalid_last (n d : Nat) (ws : List Nat) (j x : Nat) (hn : n ≤ 300) (hd : d ≤ 62) (hl : ws.length = (n * d + 63) / 64) (hj : ws.length = j + 1) (hx : ws[j]? = some x) (hlt : x < 18446744073709551616) :
    PValid n d ws ↔ x / 2 ^ (n * d - 64 * j) = 0 := by
  have hg : ws.getD j 0 = x := by simp [List.getD, hx]
  rw [high_zero2 x _ hlt]
  generalize hu : n * d = u at *
  constructor
  · intro h i hi hi2
    have := h.top (64 * j + i) (by omega) (by omega)
    rwa [bit_word ws j i hi2, hg] at this
  · intro h
    refine ⟨hn, hd, by rw [hu]; exact hl, fun i h1 h2 => ?_⟩
    have e : i = 64 * j + (i - 64 * j) := by omega
    rw [e, bit_word ws j _ (by omega), hg]
    exact h _ (by omega) (by omega)

theorem pvalid_nil (n d : Nat) (hn : n ≤ 300) (hd : d ≤ 62) (h : n * d = 0) : PValid n d [] := ⟨hn, hd, by rw [h]; rfl, fun i _ h => by simp at h⟩

/-- Number i of an array. -/
def numAt (ws : List Nat) (d i : Nat) : Nat := packTo (fun k => bit ws (i * d + k)) d

theorem numAt_lt (ws : List Nat) (d i : Nat) : numAt ws d i < 2 ^ d := packTo_lt _ _
theorem pow62 {d : Nat} (h : d ≤ 62) : 2 ^ d ≤ 4611686018427387904 := Nat.pow_le_pow_right (n := 2) (j := 62) (by decide) h

/-- Reading a number over a word's end. -/
theorem num_two (ws : List Nat) (d s j a b : Nat) (hd : d ≤ 62) (ha : ws.getD j 0 = a) (hb : ws.getD (j + 1) 0 = b) (hal : a < 18446744073709551616) (hs : s < 64) :
    (a / 2 ^ s ||| b * 2 ^ (64 - s) % 2 ^ 64) % 2 ^ d = packTo (fun k => bit ws (64 * j + s + k)) d := by
  apply Nat.eq_of_testBit_eq
  intro k
  rw [Nat.testBit_mod_two_pow, packTo_bit]
  by_cases hk : k < d
  · simp only [hk, decide_true, Bool.true_and]
    rw [Nat.testBit_or, Nat.testBit_div_two_pow, Nat.testBit_mod_two_pow, Nat.testBit_mul_two_pow]
    by_cases hl : s + k < 64
    · rw [Nat.add_assoc, bit_word ws j (s + k) hl, ha, Nat.add_comm s k]
      simp [show ¬ 64 - s ≤ k by omega]
    · rw [show 64 * j + s + k = 64 * (j + 1) + (k - (64 - s)) by omega, bit_word ws (j + 1) _ (by omega), hb]
      have hz : a.testBit (k + s) = false := Nat.testBit_lt_two_pow (Nat.lt_of_lt_of_le (show a < 2 ^ 64 from hal) (Nat.pow_le_pow_right (by decide) (by omega)))
      rw [hz]
      simp [show k < 64 by omega, show 64 - s ≤ k by omega]
  · simp [hk]

/-- Reading a number inside a word. -/
theorem num_one (ws : List Nat) (d s j a : Nat) (ha : ws.getD j 0 = a) (hs : s + d ≤ 64) :
    a / 2 ^ s % 2 ^ d = packTo (fun k => bit ws (64 * j + s + k)) d := by
  apply Nat.eq_of_testBit_eq
  intro k
  rw [Nat.testBit_mod_two_pow, packTo_bit]
  by_cases hk : k < d
  · simp only [hk, decide_true, Bool.true_and]
    rw [Nat.testBit_div_two_pow, Nat.add_assoc, bit_word ws j (s + k) (by omega), ha, Nat.add_comm s k]
  · simp [hk]

/-- The bits of numbers with d bits each, one behind the other. -/
def bitsOf (d : Nat) (l : List Nat) : List Bool := (List.range (l.length * d)).map fun p => (l.getD (p / d) 0).testBit (p % d)

/-- The words of a packed array. -/
def packWords (d : Nat) (l : List Nat) : List Nat := rowOf (bitsOf d l)

theorem bitsOf_length (d : Nat) (l : List Nat) : (bitsOf d l).length = l.length * d := by simp [bitsOf]

theorem place_lt {i n d k : Nat} (hi : i < n) (hk : k < d) : i * d + k < n * d := by
  have h1 : (i + 1) * d ≤ n * d := Nat.mul_le_mul_right d hi
  rw [Nat.add_mul, Nat.one_mul] at h1
  omega

theorem bitsOf_get (d : Nat) (l : List Nat) (i k : Nat) (hi : i < l.length) (hk : k < d) : (bitsOf d l).getD (i * d + k) false = (l.getD i 0).testBit k := by
  have hlt := place_lt hi hk
  unfold bitsOf
  rw [List.getD, List.getElem?_map, List.getElem?_range hlt]
  have e1 : (i * d + k) / d = i := by rw [Nat.mul_comm, Nat.mul_add_div (by omega), Nat.div_eq_of_lt hk]; rfl
  have e2 : (i * d + k) % d = k := by rw [Nat.mul_comm, Nat.mul_add_mod, Nat.mod_eq_of_lt hk]
  simp only [Option.map_some, Option.getD_some]
  rw [e1, e2]

theorem packWords_length (d : Nat) (l : List Nat) : (packWords d l).length = (l.length * d + 63) / 64 := by
  unfold packWords; rw [rowOf_length, bitsOf_length]
theorem packWords_word (d : Nat) (l : List Nat) : ∀ x ∈ packWords d l, x < 18446744073709551616 := rowOf_word _

theorem packWords_valid (d : Nat) (l : List Nat) (hn : l.length ≤ 300) (hd : d ≤ 62) : PValid l.length d (packWords d l) :=
  ⟨hn, hd, packWords_length d l, fun i h1 h2 => by
    rw [packWords_length] at h2
    unfold packWords
    rw [rowOf_bit _ i (by rw [bitsOf_length]; exact h2), List.getD, List.getElem?_eq_none (by rw [bitsOf_length]; exact h1)]; rfl⟩

/-- Every number comes back. -/
theorem packWords_num (d : Nat) (l : List Nat) (i : Nat) (hi : i < l.length) (hx : l.getD i 0 < 2 ^ d) : numAt (packWords d l) d i = l.getD i 0 := by
  unfold numAt
  apply Nat.eq_of_testBit_eq
  intro k
  rw [packTo_bit]
  by_cases hk : k < d
  · have hp := place_lt hi hk
    simp only [hk, decide_true, Bool.true_and]
    unfold packWords
    rw [rowOf_bit _ _ (by rw [bitsOf_length]; generalize l.length * d = u at *; omega), bitsOf_get d l i k hi hk]
  · simp only [hk, decide_false, Bool.false_and]
    exact (Nat.testBit_lt_two_pow (Nat.lt_of_lt_of_le hx (Nat.pow_le_pow_right (by decide) (by omega)))).symm

/-- The bits of a laid word. -/
theorem laid_bit (l : List Bool) (i j b : Nat) (hb : b < 64) : (packTo (fun b => l.getD (64 * j + b) false) (min 64 (i - 64 * j))).testBit b = (decide (64 * j + b < i) && l.getD (64 * j + b) false) := by
  rw [packTo_bit]
  congr 1
  simp only [decide_eq_decide]
  omega

/-- A number more, word by word. -/
def addAt (s j v p : Nat) : Nat := if p = j then v * 2 ^ s % 2 ^ 64 else if p = j + 1 then v / 2 ^ (64 - s) else 0

theorem addAt_bit (s j v p b : Nat) (hs : s < 64) (hv : v < 2 ^ 62) (hb : b < 64) : (addAt s j v p).testBit b = (decide (64 * j + s ≤ 64 * p + b) && v.testBit (64 * p + b - (64 * j + s))) := by
  unfold addAt
  by_cases h1 : p = j
  · rw [if_pos h1, Nat.testBit_mod_two_pow, Nat.testBit_mul_two_pow, h1, show 64 * j + b - (64 * j + s) = b - s by omega]
    simp [hb]
  · rw [if_neg h1]
    by_cases h2 : p = j + 1
    · rw [if_pos h2, Nat.testBit_div_two_pow, h2, show 64 * (j + 1) + b - (64 * j + s) = b + (64 - s) by omega, show decide (64 * j + s ≤ 64 * (j + 1) + b) = true by simp; omega]
      rfl
    · rw [if_neg h2, Nat.zero_testBit]
      by_cases h3 : 64 * j + s ≤ 64 * p + b
      · rw [Nat.testBit_lt_two_pow (Nat.lt_of_lt_of_le hv (Nat.pow_le_pow_right (by decide) (by omega)))]; simp
      · simp [h3]

/-- The words behind number i, out of those ahead of it. -/
theorem laid_num (d : Nat) (l : List Nat) (i p m : Nat) (hi : i < l.length) (hd : d ≤ 62) (hv : l.getD i 0 < 2 ^ d) (hp : p < m) :
    (laid (bitsOf d l) ((i + 1) * d) m).getD p 0 = (laid (bitsOf d l) (i * d) m).getD p 0 ||| addAt (i * d % 64) (i * d / 64) (l.getD i 0) p := by
  rw [List.getD, List.getD, laid_get _ _ _ _ hp, laid_get _ _ _ _ hp]
  simp only [Option.getD_some]
  have hv2 : l.getD i 0 < 2 ^ 62 := Nat.lt_of_lt_of_le hv (Nat.pow_le_pow_right (by decide) hd)
  apply Nat.eq_of_testBit_eq
  intro b
  rw [Nat.testBit_or]
  by_cases hb : b < 64
  · rw [laid_bit _ _ _ _ hb, laid_bit _ _ _ _ hb, addAt_bit _ _ _ _ _ (by omega) hv2 hb, show 64 * (i * d / 64) + i * d % 64 = i * d by omega]
    by_cases h1 : 64 * p + b < i * d
    · have h2 : 64 * p + b < (i + 1) * d := by rw [Nat.add_mul]; omega
      simp [h1, h2, show ¬ i * d ≤ 64 * p + b by omega]
    · obtain ⟨k, hk⟩ : ∃ k, 64 * p + b = i * d + k := ⟨64 * p + b - i * d, by omega⟩
      rw [hk, show i * d + k - i * d = k by omega]
      by_cases h2 : k < d
      · rw [bitsOf_get d l i k hi h2]
        have h3 : i * d + k < (i + 1) * d := by rw [Nat.add_mul]; omega
        simp [h3]
      · have h3 : ¬ i * d + k < (i + 1) * d := by rw [Nat.add_mul]; omega
        rw [Nat.testBit_lt_two_pow (Nat.lt_of_lt_of_le hv (Nat.pow_le_pow_right (by decide) (by omega)))]
        simp [h3, show ¬ i * d + k < i * d by omega]
  · have hz : ∀ y : Nat, y < 2 ^ 64 → y.testBit b = false := fun y hy => Nat.testBit_lt_two_pow (Nat.lt_of_lt_of_le hy (Nat.pow_le_pow_right (by decide) (by omega)))
    rw [hz _ (pack_word _ _ (by omega)), hz _ (pack_word _ _ (by omega)), hz]
    · rfl
    · unfold addAt
      split
      · exact Nat.mod_lt _ (by decide)
      · split
        · exact Nat.lt_of_le_of_lt (Nat.div_le_self _ _) (Nat.lt_of_lt_of_le hv2 (by decide))
        · decide

/-- What the words become where v is or'ed in at place s of word j. -/
def laidOn (ws : List Nat) (s j v : Nat) : List Nat :=
  if v = 0 then ws
  else if v / 2 ^ (64 - s) = 0 then ws.set j (ws.getD j 0 ||| v * 2 ^ s % 2 ^ 64)
  else (ws.set j (ws.getD j 0 ||| v * 2 ^ s % 2 ^ 64)).set (j + 1) (ws.getD (j + 1) 0 ||| v / 2 ^ (64 - s))

theorem getD_set (ws : List Nat) (j p x : Nat) (hj : j < ws.length) : (ws.set j x).getD p 0 = if p = j then x else ws.getD p 0 := by
  rw [List.getD, List.getD]
  by_cases e : p = j
  · subst e; rw [if_pos rfl, List.getElem?_set_self hj]; rfl
  · rw [if_neg e, List.getElem?_set_ne (fun h => e h.symm)]

/-- The place of a number's words. -/
theorem words_room (d n i v m : Nat) (hi : i < n) (hm : n * d ≤ 64 * m) (hv : v < 2 ^ d) (h0 : v ≠ 0) : i * d / 64 < m ∧ (v / 2 ^ (64 - i * d % 64) ≠ 0 → i * d / 64 + 1 < m) := by
  have h1 : (i + 1) * d ≤ n * d := Nat.mul_le_mul_right d hi
  rw [Nat.add_mul, Nat.one_mul] at h1
  have hd : 0 < d := by
    rcases Nat.eq_zero_or_pos d with e | e
    · subst e; simp at hv; omega
    · exact e
  refine ⟨by omega, fun h => ?_⟩
  have h2 : 64 - i * d % 64 < d := by
    rcases Nat.lt_or_ge (64 - i * d % 64) d with h3 | h3
    · exact h3
    · exact absurd (Nat.div_eq_of_lt (Nat.lt_of_lt_of_le hv (Nat.pow_le_pow_right (by decide) h3))) h
  omega

/-- One number more. -/
theorem laid_put (d : Nat) (l : List Nat) (i m : Nat) (hi : i < l.length) (hd : d ≤ 62) (hv : l.getD i 0 < 2 ^ d) (hm : l.length * d ≤ 64 * m) :
    laid (bitsOf d l) ((i + 1) * d) m = laidOn (laid (bitsOf d l) (i * d) m) (i * d % 64) (i * d / 64) (l.getD i 0) := by
  have key := fun p (hp : p < m) => laid_num d l i p m hi hd hv hp
  have hroom := words_room d l.length i (l.getD i 0) m hi hm hv
  have hlen := laid_length (bitsOf d l) (i * d) m
  have hlen2 := laid_length (bitsOf d l) ((i + 1) * d) m
  generalize laid (bitsOf d l) ((i + 1) * d) m = new at *
  generalize laid (bitsOf d l) (i * d) m = old at *
  generalize l.getD i 0 = v at *
  generalize i * d % 64 = s at *
  generalize i * d / 64 = j at *
  have hext : ∀ ys : List Nat, ys.length = m → (∀ p, p < m → new.getD p 0 = ys.getD p 0) → new = ys := by
    intro ys hy h
    apply List.ext_getElem?
    intro p
    by_cases hp : p < m
    · have := h p hp
      rw [List.getD, List.getD, List.getElem?_eq_getElem (by omega), List.getElem?_eq_getElem (by omega)] at this
      rw [List.getElem?_eq_getElem (by omega), List.getElem?_eq_getElem (by omega)]
      exact congrArg some this
    · rw [List.getElem?_eq_none (by omega), List.getElem?_eq_none (by omega)]
  unfold laidOn
  by_cases h0 : v = 0
  · rw [if_pos h0]
    refine hext _ hlen fun p hp => ?_
    rw [key p hp, h0]
    simp [addAt]
  · rw [if_neg h0]
    obtain ⟨r1, r2⟩ := hroom h0
    by_cases hz : v / 2 ^ (64 - s) = 0
    · rw [if_pos hz]
      refine hext _ (by rw [List.length_set]; exact hlen) fun p hp => ?_
      rw [key p hp, getD_set _ _ _ _ (by omega)]
      unfold addAt
      by_cases h1 : p = j
      · rw [if_pos h1, if_pos h1, h1]
      · rw [if_neg h1, if_neg h1, hz]; simp
    · rw [if_neg hz]
      have r3 := r2 hz
      refine hext _ (by rw [List.length_set, List.length_set]; exact hlen) fun p hp => ?_
      rw [key p hp, getD_set _ _ _ _ (by rw [List.length_set]; omega), getD_set _ _ _ _ (by omega)]
      unfold addAt
      by_cases h1 : p = j
      · rw [if_pos h1, if_pos h1, if_neg (by omega), h1]
      · rw [if_neg h1, if_neg h1]
        by_cases h2 : p = j + 1
        · rw [if_pos h2, if_pos h2, h2]
        · rw [if_neg h2, if_neg h2]; simp

theorem laidOn_length (ws : List Nat) (s j v : Nat) : (laidOn ws s j v).length = ws.length := by
  unfold laidOn
  split
  · rfl
  · split <;> simp

/-- How many bits a number needs. -/
theorem bitLen_lt (x : Nat) (hx : x < 18446744073709551616) (k : Nat) : Lib.bitLen x ≤ k ↔ x < 2 ^ k := by
  have aux : ∀ f x k, x < 2 ^ f → (Lib.bitLenAux f x ≤ k ↔ x < 2 ^ k) := by
    intro f
    induction f with
    | zero => intro x k h; have : x = 0 := by simpa using h
              subst this; simp [Lib.bitLenAux, Nat.two_pow_pos]
    | succ f ih =>
      intro x k h
      rw [Lib.bitLenAux]
      by_cases h0 : x = 0
      · subst h0; simp [Nat.two_pow_pos]
      · rw [if_neg h0]
        cases k with
        | zero => simp; omega
        | succ k =>
          rw [show 1 + Lib.bitLenAux f (x / 2) ≤ k + 1 ↔ Lib.bitLenAux f (x / 2) ≤ k by omega, ih (x / 2) k (by rw [Nat.pow_succ] at h; omega), Nat.pow_succ]
          omega
  exact aux 64 x k hx
end Go.Proofs.YtpkclmfadlkbeaaDoor.Words
