/-
  Plain mathematics: the parity of swaps is multiplicative, and that of the numbers less the cycles. No condition but what each theorem names.
-/
import Derived.Test.YtehmngecpipebaaPermNo
namespace Go.Proofs.Ytehmngecpipebaa

/-- A sum over all pairs of a list, each once, in its order. -/
def pairs (g : Nat → Nat → Nat) : List Nat → Nat
  | [] => 0
  | x :: r => (r.map (g x)).sum + pairs g r
theorem sum_add {α : Type} (f g : α → Nat) (l : List α) : (l.map fun x => f x + g x).sum = (l.map f).sum + (l.map g).sum := by
  induction l with
  | nil => rfl
  | cons a l ih => simp only [List.map_cons, List.sum_cons, ih]; omega
theorem pairs_perm {g : Nat → Nat → Nat} (hg : ∀ x y, g x y = g y x) {a b : List Nat} (h : a.Perm b) : pairs g a = pairs g b := by
  induction h with
  | nil => rfl
  | cons x p ih => rw [pairs, pairs, ih, (p.map (g x)).sum_nat]
  | swap x y l =>
    simp only [pairs, List.map_cons, List.sum_cons]
    rw [hg y x]
    omega
  | trans _ _ h1 h2 => rw [h1, h2]
theorem cnt_sum (x : Nat) (l : List Nat) : cnt x l = (l.map fun y => if y < x then 1 else 0).sum := by
  induction l with
  | nil => rfl
  | cons a l ih => rw [cnt_cons, ih, List.map_cons, List.sum_cons]; omega
theorem swp_pairs : ∀ l : List Nat, swp l = pairs (fun x y => if y < x then 1 else 0) l
  | [] => rfl
  | x :: r => by rw [swp, pairs, swp_pairs r, cnt_sum]
/-- Does q turn two numbers round? -/
def turned (q : Nat → Nat) (x y : Nat) : Nat := if (x < y ∧ q y < q x) ∨ (y < x ∧ q x < q y) then 1 else 0
theorem turned_symm (q : Nat → Nat) (x y : Nat) : turned q x y = turned q y x := by
  unfold turned
  by_cases h : (x < y ∧ q y < q x) ∨ (y < x ∧ q x < q y)
  · rw [if_pos h, if_pos h.symm]
  · rw [if_neg h, if_neg fun h2 => h h2.symm]
theorem sum_mod {α : Type} (f g : α → Nat) (l : List α) (h : ∀ x ∈ l, f x % 2 = g x % 2) : (l.map f).sum % 2 = (l.map g).sum % 2 := by
  induction l with
  | nil => rfl
  | cons a l ih =>
    have h1 := h a (List.mem_cons_self ..)
    have h2 := ih fun x hx => h x (List.mem_cons_of_mem _ hx)
    simp only [List.map_cons, List.sum_cons]
    omega
theorem turned_case (q : Nat → Nat) (x y : Nat) (hxy : x ≠ y) (hq : q x ≠ q y) : (if q y < q x then 1 else 0) % 2 = ((if y < x then 1 else 0) + turned q x y) % 2 := by
  unfold turned
  by_cases h1 : x < y
  · by_cases h2 : q y < q x
    · rw [if_pos h2, if_neg (by omega), if_pos (Or.inl ⟨h1, h2⟩)]
    · rw [if_neg h2, if_neg (by omega), if_neg (by omega)]
  · by_cases h2 : q y < q x
    · rw [if_pos h2, if_pos (by omega), if_neg (by omega)]
    · rw [if_neg h2, if_pos (by omega), if_pos (Or.inr ⟨by omega, by omega⟩)]
theorem swp_map : ∀ (q : Nat → Nat) (l : List Nat), l.Nodup → (∀ x ∈ l, ∀ y ∈ l, q x = q y → x = y) → swp (l.map q) % 2 = (swp l + pairs (turned q) l) % 2
  | q, [], _, _ => rfl
  | q, x :: r, hn, hq => by
    rw [List.nodup_cons] at hn
    have ih := swp_map q r hn.2 fun a ha b hb => hq a (List.mem_cons_of_mem _ ha) b (List.mem_cons_of_mem _ hb)
    have h1 := sum_mod (fun y => if q y < q x then 1 else 0) (fun y => (if y < x then 1 else 0) + turned q x y) r fun y hy => by
      refine turned_case q x y (fun e => hn.1 (by rw [e]; exact hy)) fun e => hn.1 ?_
      rw [hq x (List.mem_cons_self ..) y (List.mem_cons_of_mem _ hy) e]
      exact hy
    rw [sum_add] at h1
    rw [List.map_cons, swp, swp, pairs, cnt_sum, cnt_sum, List.map_map]
    simp only [Function.comp_def]
    omega
theorem pairs_range (q : Nat → Nat) (l : List Nat) (hl : l.Pairwise (· < ·)) : pairs (turned q) l = swp (l.map q) := by
  induction l with
  | nil => rfl
  | cons x r ih =>
    rw [List.pairwise_cons] at hl
    rw [pairs, List.map_cons, swp, ih hl.2, cnt_sum, List.map_map]
    have e : r.map (turned q x) = r.map ((fun y => if y < q x then 1 else 0) ∘ q) := List.map_congr_left fun y hy => by
      have := hl.1 y hy
      unfold turned
      simp only [Function.comp]
      by_cases h2 : q y < q x
      · rw [if_pos h2, if_pos (Or.inl ⟨this, h2⟩)]
      · rw [if_neg h2, if_neg (by omega)]
    rw [e]
/-- Signs multiply. -/
theorem swp_then {p q : List Nat} (hp : PermL p) (hq : PermL q) (hl : p.length = q.length) : swp (thenL p q) % 2 = (swp p + swp q) % 2 := by
  have h1 := swp_map (st q) p hp.nd fun x hx y hy e => hq.inj (hl ▸ hp.lt x hx) (hl ▸ hp.lt y hy) e
  have h2 := pairs_perm (turned_symm (st q)) hp.perm
  have h3 := pairs_range (st q) (List.range p.length) List.pairwise_lt_range
  rw [hl, map_st] at h3
  rw [hl] at h2
  unfold thenL
  omega

theorem swp_append (a b : List Nat) : swp (a ++ b) = swp a + swp b + (a.map fun x => cnt x b).sum := by
  induction a with
  | nil => simp [swp]
  | cons x a ih =>
    rw [List.cons_append, swp, swp, ih, cnt_append, List.map_cons, List.sum_cons]
    omega
theorem swp_one (x : Nat) : swp [x] = 0 := rfl
theorem sum_none {α : Type} (l : List α) : (l.map fun _ => 0).sum = 0 := by
  induction l with
  | nil => rfl
  | cons a l ih => rw [List.map_cons, List.sum_cons, ih]
/-- The greatest number at the end. -/
theorem swp_last (l : List Nat) (n : Nat) (h : ∀ x ∈ l, x < n) : swp (l ++ [n]) = swp l := by
  rw [swp_append, swp_one]
  have e : l.map (fun x => cnt x [n]) = l.map fun _ => 0 := List.map_congr_left fun x hx => by
    rw [cnt_cons, if_neg (by have := h x hx; omega)]
    rfl
  rw [e, sum_none]
  omega
theorem sum_one (l : List Nat) (n : Nat) (h : ∀ x ∈ l, x < n) : cnt n l = l.length := by
  induction l with
  | nil => rfl
  | cons a l ih =>
    rw [cnt_cons, if_pos (h a (List.mem_cons_self ..)), ih fun x hx => h x (List.mem_cons_of_mem _ hx), List.length_cons]
theorem sum_cnt_single (l : List Nat) (y : Nat) (hy : y ∉ l) : (l.map fun x => cnt x [y]).sum + cnt y l = l.length := by
  induction l with
  | nil => rfl
  | cons a l ih =>
    rw [List.mem_cons, not_or] at hy
    have := ih hy.2
    rw [List.map_cons, List.sum_cons, cnt_cons y a l, cnt_cons a y [], List.length_cons]
    show cnt a [] + _ + _ + _ = _
    have e : cnt a [] = 0 := rfl
    rw [e]
    by_cases h : y < a
    · rw [if_pos h, if_neg (by omega)]; omega
    · rw [if_neg h, if_pos (by omega)]; omega
/-- The greatest number somewhere and y at the end, or the other way round. -/
theorem swp_exch (a b : List Nat) (n y : Nat) (hb : ∀ x ∈ b, x < n) (hy : y < n) (hyb : y ∉ b) : (swp (a ++ n :: (b ++ [y])) + 1) % 2 = swp (a ++ y :: (b ++ [n])) % 2 := by
  rw [swp_append, swp_append]
  have e1 : (a.map fun x => cnt x (n :: (b ++ [y]))) = a.map fun x => cnt x (y :: (b ++ [n])) := List.map_congr_left fun x _ => by
    refine cnt_perm ?_
    have p1 : (n :: (b ++ [y])).Perm (n :: y :: b) := (List.perm_append_singleton y b).cons n
    have p2 : (y :: (b ++ [n])).Perm (y :: n :: b) := (List.perm_append_singleton n b).cons y
    exact p1.trans ((List.Perm.swap _ _ _).trans p2.symm)
  rw [e1]
  have s1 := sum_one b n hb
  have s2 := sum_cnt_single b y hyb
  have t1 : swp (n :: (b ++ [y])) = cnt n b + 1 + (swp b + (b.map fun x => cnt x [y]).sum) := by
    rw [swp, cnt_append, cnt_cons n y [], if_pos hy, swp_append, swp_one]
    show cnt n b + (0 + 1) + _ = _
    omega
  have t2 : swp (y :: (b ++ [n])) = cnt y b + swp b := by
    rw [swp, cnt_append, cnt_cons y n [], if_neg (by omega), swp_last b n hb]
    show cnt y b + (0 + 0) + _ = _
    omega
  rw [t1, t2]
  omega
end Go.Proofs.Ytehmngecpipebaa
