/-
  Plain mathematics: swaps are even just if as many numbers as cycles differ by an even number. No condition but what each theorem names.
-/
import Derived.Test.YtehmngecpipebaaPermCy
namespace Go.Proofs.Ytehmngecpipebaa

/-- How many numbers below m are the least of their cycle. -/
def mins (p : List Nat) : Nat := (List.range p.length).countP (least p)
theorem cycs_length (p : List Nat) : (cycs p).length = mins p := by
  unfold cycs cycsTo mins
  rw [List.length_map, List.countP_eq_length_filter]

section
variable {p : List Nat} {n : Nat} (h : PermL p) (hn : p.length = n + 1)
/-- p without its greatest number. -/
def cutL (p : List Nat) (n : Nat) : List Nat := (List.range n).map fun x => if st p x = n then st p n else st p x
theorem cutL_length (p : List Nat) (n : Nat) : (cutL p n).length = n := by simp [cutL]
theorem st_cutL (p : List Nat) {n x : Nat} (hx : x < n) : st (cutL p n) x = if st p x = n then st p n else st p x := st_of (by unfold cutL; rw [List.getElem?_map, List.getElem?_range hx]; rfl)
include h hn
theorem cutL_perm : PermL (cutL p n) := by
  have inj := fun {i j : Nat} (hi : i < n + 1) (hj : j < n + 1) => h.inj (i := i) (j := j) (by omega) (by omega)
  refine ⟨nodup_map_on (fun a ha b hb e => ?_) List.nodup_range, fun x hx => ?_⟩
  · rw [List.mem_range] at ha hb
    split at e
    · split at e
      · exact inj (by omega) (by omega) (by omega)
      · have := inj (i := n) (j := b) (by omega) (by omega) e; omega
    · split at e
      · have := inj (i := a) (j := n) (by omega) (by omega) e; omega
      · exact inj (by omega) (by omega) e
  · rw [cutL_length]
    obtain ⟨i, hi, rfl⟩ := List.mem_map.1 hx
    rw [List.mem_range] at hi
    have h1 := h.st_lt (i := i) (by omega)
    have h2 := h.st_lt (i := n) (by omega)
    split
    · rename_i e
      have : st p n ≠ n := fun e2 => by have := inj (i := i) (j := n) (by omega) (by omega) (by omega); omega
      omega
    · omega
theorem reach_cut {i j : Nat} (hi : i < n) (hj : j < n) : Reach (cutL p n) i j ↔ Reach p i j := by
  constructor
  · rintro ⟨k, rfl⟩
    have hl := it_lt (cutL_perm h hn) (i := i) (by rw [cutL_length]; exact hi)
    rw [cutL_length] at hl
    clear hj
    induction k with
    | zero => exact .refl p i
    | succ k ih =>
      refine ih.trans ?_
      show Reach p (it (cutL p n) k i) (st (cutL p n) (it (cutL p n) k i))
      have := hl k
      generalize it (cutL p n) k i = x at *
      rw [st_cutL p this]
      split
      · rename_i e
        exact ⟨2, by show st p (st p x) = _; rw [e]⟩
      · exact ⟨1, rfl⟩
  · rintro ⟨k, e⟩
    induction k using Nat.strongRecOn generalizing i with
    | _ k ih =>
      match k, e with
      | 0, e => exact ⟨0, e⟩
      | k + 1, e =>
        rw [it_one] at e
        have h1 := h.st_lt (i := i) (by omega)
        by_cases hx : st p i = n
        · rw [hx] at e
          match k, e with
          | 0, e => exact absurd (show n = j from e) (by omega)
          | k + 1, e =>
            rw [it_one] at e
            have h2 := h.st_lt (i := n) (by omega)
            have h3 : st p n ≠ n := fun e2 => by
              have := h.inj (i := i) (j := n) (by omega) (by omega) (by omega)
              omega
            have h4 := ih k (by omega) (i := st p n) (by omega) e
            refine Reach.trans ⟨1, ?_⟩ h4
            show st (cutL p n) i = st p n
            rw [st_cutL p hi, if_pos hx]
        · have h4 := ih k (by omega) (i := st p i) (by omega) e
          refine Reach.trans ⟨1, ?_⟩ h4
          show st (cutL p n) i = st p i
          rw [st_cutL p hi, if_neg hx]
theorem least_cut {i : Nat} (hi : i < n) : least (cutL p n) i = least p i := by
  have hc := cutL_perm h hn
  rw [Bool.eq_iff_iff, least_iff hc (by rw [cutL_length]; exact hi), least_iff h (by omega)]
  constructor
  · intro hl j hj
    obtain ⟨k, hk⟩ := hj
    have hjl := it_lt h (i := i) (by omega) k
    rw [hk] at hjl
    by_cases e : j = n
    · omega
    · exact hl j ((reach_cut h hn hi (by omega)).2 ⟨k, hk⟩)
  · intro hl j hj
    obtain ⟨k, hk⟩ := hj
    have hjl := it_lt hc (i := i) (by rw [cutL_length]; exact hi) k
    rw [hk, cutL_length] at hjl
    exact hl j ((reach_cut h hn hi hjl).1 ⟨k, hk⟩)
theorem least_last : least p n = decide (st p n = n) := by
  rw [Bool.eq_iff_iff, least_iff h (by omega), decide_eq_true_eq]
  constructor
  · intro hl
    have h1 := hl (st p n) ⟨1, rfl⟩
    have h2 := h.st_lt (i := n) (by omega)
    omega
  · rintro e j ⟨k, rfl⟩
    have : it p k n = n := by
      induction k with
      | zero => rfl
      | succ k ih => show st p (it p k n) = n; rw [ih, e]
    omega
theorem mins_cut : mins p = mins (cutL p n) + if st p n = n then 1 else 0 := by
  unfold mins
  rw [hn, cutL_length, List.range_succ, List.countP_append, List.countP_singleton, least_last h hn]
  have e : (List.range n).countP (least p) = (List.range n).countP (least (cutL p n)) := List.countP_congr fun x hx => by rw [least_cut h hn (List.mem_range.1 hx)]
  rw [e]
  simp
/-- The greatest number at its own place. -/
theorem cut_fixed (hf : st p n = n) : p = cutL p n ++ [n] := by
  refine st_ext (by simp [cutL_length, hn]) fun i hi => ?_
  symm
  refine st_of ?_
  by_cases e : i = n
  · subst e
    rw [List.getElem?_append_right (by rw [cutL_length]; exact Nat.le_refl _), cutL_length, Nat.sub_self, hf]
    rfl
  · rw [List.getElem?_append_left (by rw [cutL_length]; omega), st_get (by rw [cutL_length]; omega), st_cutL p (by omega)]
    split
    · rename_i e2
      have := h.inj (i := i) (j := n) (by omega) (by omega) (by omega)
      omega
    · rfl
theorem swp_cut : (swp p + if st p n = n then 0 else 1) % 2 = swp (cutL p n) % 2 := by
  have hc := cutL_perm h hn
  have hcl : ∀ x ∈ cutL p n, x < n := fun x hx => by have := hc.lt x hx; rwa [cutL_length] at this
  by_cases hf : st p n = n
  · rw [if_pos hf]
    have e := cut_fixed h hn hf
    conv => lhs; rw [e]
    rw [swp_last _ _ hcl]
    omega
  · rw [if_neg hf]
    -- n stands at place x0
    have hx0 := idx_lt h (x := n) (by omega)
    have hsx := st_idx h (x := n) (by omega)
    generalize p.idxOf n = x0 at *
    have hxn : x0 ≠ n := fun e => hf (by rw [← e]; rw [hsx, e])
    have hy : st p n < n := by have := h.st_lt (i := n) (by omega); omega
    have sp : p = p.take x0 ++ n :: ((p.drop (x0 + 1)).take (n - x0 - 1) ++ [st p n]) := by
      have e0 : p[x0] = n := by rw [← hsx]; simp [st, hx0]
      have en : p[n]'(by omega) = st p n := by simp [st, show n < p.length by omega]
      have ed : p.drop n = [st p n] := by rw [List.drop_eq_getElem_cons (i := n) (by omega), en, List.drop_of_length_le (by omega)]
      conv => lhs; rw [← List.take_append_drop x0 p, List.drop_eq_getElem_cons hx0, e0, ← List.take_append_drop (n - x0 - 1) (p.drop (x0 + 1)), List.drop_drop, show x0 + 1 + (n - x0 - 1) = n by omega, ed]
    have sc : cutL p n = p.take x0 ++ st p n :: (p.drop (x0 + 1)).take (n - x0 - 1) := by
      refine st_ext (by rw [cutL_length]; simp; omega) fun i hi => ?_
      rw [cutL_length] at hi
      rw [st_cutL p hi]
      symm
      refine st_of ?_
      by_cases c1 : i < x0
      · rw [List.getElem?_append_left (by simp; omega), List.getElem?_take, if_pos c1, st_get (by omega), if_neg fun e => by
          have := h.inj (i := i) (j := x0) (by omega) hx0 (by omega)
          omega]
      · rw [List.getElem?_append_right (by simp; omega), List.length_take, Nat.min_eq_left (Nat.le_of_lt hx0)]
        by_cases c2 : i = x0
        · subst c2
          rw [Nat.sub_self, if_pos hsx]
          rfl
        · obtain ⟨j, rfl⟩ : ∃ j, i = x0 + 1 + j := ⟨i - x0 - 1, by omega⟩
          rw [show x0 + 1 + j - x0 = j + 1 by omega, List.getElem?_cons_succ, List.getElem?_take, if_pos (by omega), List.getElem?_drop, st_get (by omega), if_neg fun e => by
            have := h.inj (i := x0 + 1 + j) (j := x0) (by omega) hx0 (by omega)
            omega]
    have hnd := h.nd
    rw [sp] at hnd
    generalize p.take x0 = a at *
    generalize (p.drop (x0 + 1)).take (n - x0 - 1) = b at *
    have hb : ∀ x ∈ b, x < n := fun x hx => hcl x (by rw [sc]; simp [hx])
    have hyb : st p n ∉ b := fun hm => by
      have h1 := (List.nodup_append.1 hnd).2.1
      rw [List.nodup_cons] at h1
      exact (List.nodup_append.1 h1.2).2.2 _ hm _ (List.mem_singleton.2 rfl) rfl
    generalize st p n = y at *
    have h1 := swp_exch a b n y hb hy hyb
    rw [← sp] at h1
    have h2 : swp (a ++ y :: (b ++ [n])) = swp (cutL p n) := by
      rw [show a ++ y :: (b ++ [n]) = (a ++ y :: b) ++ [n] by simp, ← sc]
      exact swp_last _ _ hcl
    rw [h2] at h1
    exact h1
end
/-- Swaps and numbers and cycles are even together. -/
theorem swp_cycles : ∀ (n : Nat) (p : List Nat), PermL p → p.length = n → (swp p + n + mins p) % 2 = 0
  | 0, p, _, hn => by rw [List.eq_nil_of_length_eq_zero hn]; rfl
  | n + 1, p, h, hn => by
    have ih := swp_cycles n (cutL p n) (cutL_perm h hn) (cutL_length p n)
    have h1 := mins_cut h hn
    have h2 := swp_cut h hn
    by_cases hf : st p n = n
    · rw [if_pos hf] at h1 h2
      omega
    · rw [if_neg hf] at h1 h2
      omega
end Go.Proofs.Ytehmngecpipebaa
