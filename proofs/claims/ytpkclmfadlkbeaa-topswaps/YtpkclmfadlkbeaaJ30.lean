/-
  Plain mathematics of swaps counted four ways: behind a place what is less, ahead of a place what is greater, sums, points to the right and below. No condition but what each theorem names.
-/
import Derived.Test.YtpkclmfadlkbeaaJ27
import Derived.Test.YtpkclmfadlkbeaaJ25
import Derived.Test.YtpkclmfadlkbeaaJ10
import Derived.Test.YtpkclmfadlkbeaaJ05
namespace Go.Proofs.Ytpkclmfadlkbeaa
open Words Go.Sort

/-! ### Ahead of a place -/
theorem swp_snoc : ∀ (l : List Nat) (x : Nat), swp (l ++ [x]) = swp l + l.countP fun y => decide (x < y)
  | [], _ => rfl
  | a :: r, x => by
    rw [List.cons_append, swp, swp, cnt_append, swp_snoc r x, List.countP_cons, cnt_cons]
    have : cnt a [] = 0 := rfl
    rw [this]
    by_cases h : x < a
    · rw [if_pos h, if_pos (by simpa using h)]; omega
    · rw [if_neg h, if_neg (by simpa using h)]; omega
theorem less_more {x : Nat} : ∀ {l : List Nat}, x ∉ l → cnt x l + (l.countP fun y => decide (x < y)) = l.length
  | [], _ => rfl
  | a :: r, h => by
    have h1 := less_more (l := r) fun e => h (List.mem_cons_of_mem _ e)
    have h2 : x ≠ a := fun e => h (by rw [e]; simp)
    rw [cnt_cons, List.countP_cons, List.length_cons]
    by_cases h3 : a < x
    · rw [if_pos h3, if_neg (by simp; omega)]; omega
    · rw [if_neg h3, if_pos (by simp; omega)]; omega
/-- The swaps among the first i + 1: those among the first i, and those ahead of place i that are greater. -/
theorem swp_take {p : List Nat} (hp : PermL p) {i x : Nat} (hx : p[i]? = some x) : swp (p.take (i + 1)) + cnt x (p.take i) = swp (p.take i) + i ∧ cnt x (p.take i) ≤ i := by
  have hi : i < p.length := (List.getElem?_eq_some_iff.1 hx).1
  have e : p.take (i + 1) = p.take i ++ [x] := by rw [List.take_add_one, hx]; rfl
  have hn : x ∉ p.take i := by
    have h2 := hp.nd.sublist (List.take_sublist (i + 1) p)
    rw [e, List.nodup_append] at h2
    exact fun h => h2.2.2 x h x (by simp) rfl
  have h1 := less_more hn
  rw [List.length_take, Nat.min_eq_left (by omega)] at h1
  rw [e, swp_snoc]
  omega
theorem swp_behind {p : List Nat} {i x : Nat} (hx : p[i]? = some x) : cnt x (p.drop (i + 1)) + swp (p.drop (i + 1)) = swp (p.drop i) := by
  rw [swp_drop (List.getElem?_eq_some_iff.1 hx).1, st_of hx]

/-! ### Sums -/
/-- How often a number stands among the first i. -/
def tal (p : List Nat) (i k : Nat) : Int := ((p.take i).countP fun y => decide (y = k) : Nat)
theorem tal_zero (p : List Nat) (k : Nat) : tal p 0 k = 0 := rfl
theorem tal_step {p : List Nat} {i x : Nat} (hx : p[i]? = some x) : upd (tal p i) x (tal p i x + 1) = tal p (i + 1) := funext fun k => by
  unfold upd tal
  rw [List.take_add_one, hx, Option.toList_some, List.countP_append, List.countP_singleton]
  by_cases e : k = x
  · subst e
    rw [if_pos rfl]
    simp
  · rw [if_neg e, if_neg (by simp; omega)]
    simp
theorem tal_lim (p : List Nat) (i k : Nat) (h : i ≤ 60) : -60 ≤ tal p i k ∧ tal p i k ≤ 60 := by
  unfold tal
  have h1 : (p.take i).countP (fun y => decide (y = k)) ≤ (p.take i).length := List.countP_le_length
  rw [List.length_take] at h1
  omega
theorem cnt_succ (x : Nat) : ∀ l : List Nat, cnt (x + 1) l = cnt x l + l.countP fun y => decide (y = x)
  | [] => rfl
  | a :: r => by
    rw [cnt_cons, cnt_cons, List.countP_cons, cnt_succ x r]
    by_cases h : a < x
    · rw [if_pos h, if_pos (by omega), if_neg (by simp; omega)]; omega
    · by_cases h2 : a = x
      · rw [if_neg h, if_pos (by omega), if_pos (by simpa using h2)]; omega
      · rw [if_neg h, if_neg (by omega), if_neg (by simpa using h2)]; omega
theorem tal_sum (p : List Nat) (i x : Nat) : S (tal p i) x = (cnt x (p.take i) : Int) := by
  induction x with
  | zero =>
    have : cnt 0 (p.take i) = 0 := List.countP_eq_zero.2 fun a _ => by simp
    rw [this]
    rfl
  | succ x ih =>
    rw [S_succ, ih, cnt_succ]
    unfold tal
    omega

/-! ### A wavelet matrix -/
theorem wave_behind {L : Nat} {p : List Nat} {vs : List Lev} (h : MadeOf p.length (levs L p) vs) (hx : ∀ x ∈ p, x < 2 ^ L) {i : Nat} (hi : i < p.length) (x : Nat) :
    lessI p.length (fns vs) (x : Int) (i + 1) p.length = (cnt x (p.drop (i + 1)) : Int) := by
  have h1 := made_lsI h hx
  unfold lessI
  rw [num_count p.length (fns vs) (fun z => decide (z < (x : Int))) (i + 1) p.length (by omega) (Nat.le_refl _)]
  unfold rng
  rw [h1, ← List.map_drop, List.take_of_length_le (by simp), List.countP_map]
  congr 1
  unfold cnt
  refine List.countP_congr fun y _ => ?_
  simp only [Function.comp, decide_eq_true_eq]
  omega

/-! ### Points -/
/-- The points of a list: to the right those behind come to stand to the left, higher what is greater. -/
def ptSw (p : List Nat) (n : Nat) : List Pt3 := (List.range n).map fun i : Nat => ⟨-(i : Int), (st p i : Int), 0⟩
theorem ptSw_length (p : List Nat) (n : Nat) : (ptSw p n).length = n := by simp [ptSw]
theorem ptSw_at (p : List Nat) {n i : Nat} (h : i < n) : ptAt (ptSw p n) i = ⟨-(i : Int), (st p i : Int), 0⟩ := ptAt_of (by unfold ptSw; rw [List.getElem?_map, List.getElem?_range h]; rfl)
theorem ptSw_step (p : List Nat) (i : Nat) : ptC (ptSw p (i + 1)) = ptC (ptSw p i) ++ [.int .i64 (-(i : Int)), .int .i64 (st p i : Nat), .int .i64 0] := by
  unfold ptSw
  rw [List.range_succ, List.map_append, ptC_append]
  rfl
theorem ptSw_ok {p : List Nat} (hp : PermL p) (hn : p.length ≤ 60) : ptsF (ptSw p p.length) = 0 := by
  unfold ptsF
  rw [if_neg (by rw [ptSw_length]; omega), if_pos]
  rw [List.all_eq_true]
  intro q hq
  obtain ⟨i, hi, rfl⟩ := List.mem_map.1 hq
  have h1 := List.mem_range.1 hi
  have h2 := hp.st_lt h1
  unfold ptOk coOk
  simp only [Bool.and_eq_true, decide_eq_true_eq]
  omega
theorem count_behind (x : Nat) : ∀ (l : List Nat) (a : Nat), ((List.range l.length).countP fun k => decide (a ≤ k) && decide (st l k < x)) = cnt x (l.drop a)
  | [], a => by simp [cnt]
  | y :: r, a => by
    have h0 : st (y :: r) 0 = y := rfl
    have hs : ∀ k, st (y :: r) (k + 1) = st r k := fun k => rfl
    rw [List.length_cons, List.range_succ_eq_map, List.countP_cons, List.countP_map]
    cases a with
    | zero =>
      have h1 := count_behind x r 0
      rw [List.drop_zero] at h1 ⊢
      rw [cnt_cons, ← h1, h0]
      have e : ((fun k => decide (0 ≤ k) && decide (st (y :: r) k < x)) ∘ Nat.succ) = fun k => decide (0 ≤ k) && decide (st r k < x) := funext fun k => by simp [Function.comp, hs]
      rw [e]
      simp
    | succ a =>
      have h1 := count_behind x r a
      rw [List.drop_succ_cons, ← h1]
      have e : ((fun k => decide (a + 1 ≤ k) && decide (st (y :: r) k < x)) ∘ Nat.succ) = fun k => decide (a ≤ k) && decide (st r k < x) := funext fun k => by simp [Function.comp, hs]
      rw [e]
      simp
theorem und_swap {p : List Nat} (hp : PermL p) {i x : Nat} (hx : p[i]? = some x) : undN (ptSw p p.length) i = cnt x (p.drop (i + 1)) := by
  have hi : i < p.length := (List.getElem?_eq_some_iff.1 hx).1
  have hr : undN (ptSw p p.length) i = (List.range p.length).countP fun k => domP (ptSw p p.length) i k := by
    have key : ∀ m, m ≤ p.length → undTo (ptSw p p.length) i m = (List.range m).countP fun k => domP (ptSw p p.length) i k := by
      intro m
      induction m with
      | zero => intro _; rfl
      | succ m ih =>
        intro hm
        rw [undTo_step (ptAt_get (ps := ptSw p p.length) (i := m) (by rw [ptSw_length]; omega)), ih (by omega), List.range_succ, List.countP_append, List.countP_singleton]
        rfl
    have := key _ (Nat.le_refl _)
    unfold undN
    rw [ptSw_length]
    exact this
  rw [hr, ← count_behind x p (i + 1)]
  refine List.countP_congr fun k hk => ?_
  have hk2 := List.mem_range.1 hk
  have hs : st p i = x := st_of hx
  unfold domP
  rw [dom_iff, ptSw_at p hi, ptSw_at p hk2]
  simp only [Bool.and_eq_true, decide_eq_true_eq]
  rw [← hs]
  have hinj : st p i = st p k → i = k := fun e => hp.inj hi hk2 e
  constructor
  · rintro ⟨h1, h2, h3⟩
    have h4 : i ≠ k := fun e => by subst e; omega
    have h5 : st p i ≠ st p k := fun e => h4 (hinj e)
    omega
  · rintro ⟨h1, h2⟩
    omega
end Go.Proofs.Ytpkclmfadlkbeaa
