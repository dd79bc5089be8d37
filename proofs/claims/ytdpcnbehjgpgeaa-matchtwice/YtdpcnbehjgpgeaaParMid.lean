/-
  Plain mathematics of parts of balanced texts, of no program: what is between two that belong together, and what is left without them, is balanced; texts cut. No condition but what each theorem names.
-/
import Derived.Test.YtdpcnbehjgpgeaaParChk
import Derived.Test.YtdpcnbehjgpgeaaParBld
namespace Go.Proofs.Ytdpcnbehjgpgeaa
open Go Go.RowKit Words

theorem cutL_length (l : List Bool) {a b : Nat} (h : b ≤ l.length) : (cutL l a b).length = b - a := by
  unfold cutL
  rw [List.length_take, List.length_drop]
  omega
theorem cutL_get (l : List Bool) {a b i : Nat} (h : i < b - a) : (cutL l a b)[i]? = l[a + i]? := by
  unfold cutL
  rw [List.getElem?_take, if_pos h, List.getElem?_drop]
theorem dp_cut (l : List Bool) {a b : Nat} : ∀ i, i ≤ b - a → dp (cutL l a b) i = dp l (a + i) - dp l a
  | 0, _ => by rw [Nat.add_zero, Int.sub_self]; rfl
  | i + 1, h => by
    rw [dp, dp_cut l i (by omega), cutL_get l (by omega), ← Nat.add_assoc, dp]
    omega
/-- What is between two that belong together. -/
theorem mid_bal {l : List Bool} {a b : Nat} (hc : IsClose l a b) : Bal (cutL l (a + 1) b) := by
  have hb := get_lt hc.shuts
  have hlt := hc.lt
  have hup := dp_up hc.opens
  have hdn := dp_down hc.shuts
  have hbk := hc.back
  have hlen : (cutL l (a + 1) b).length = b - (a + 1) := cutL_length l (by omega)
  refine ⟨fun i hi => ?_, ?_⟩
  · rw [hlen] at hi
    rw [dp_cut l i hi]
    have := hc.btw (a + 1 + i) (by omega) (by omega)
    omega
  · rw [hlen, dp_cut l _ (Nat.le_refl _), show a + 1 + (b - (a + 1)) = b by omega]
    omega
/-- What is left without them. -/
theorem rest_bal {l : List Bool} (h : Bal l) {a b : Nat} (hc : IsClose l a b) : Bal (cutL l 0 a ++ cutL l (b + 1) l.length) := by
  have hb := get_lt hc.shuts
  have hlt := hc.lt
  have hbk := hc.back
  have l1 : (cutL l 0 a).length = a := by rw [cutL_length l (by omega)]; omega
  have l2 : (cutL l (b + 1) l.length).length = l.length - (b + 1) := cutL_length l (Nat.le_refl _)
  have e1 : ∀ i, i ≤ a → dp (cutL l 0 a) i = dp l i := fun i hi => by
    rw [dp_cut l i (by omega), Nat.zero_add]
    show dp l i - 0 = _
    omega
  have e2 : dp (cutL l 0 a) (cutL l 0 a).length = dp l a := by rw [l1]; exact e1 a (Nat.le_refl _)
  refine ⟨fun i hi => ?_, ?_⟩
  · rw [List.length_append, l1, l2] at hi
    by_cases hia : i ≤ a
    · rw [dp_left (by rw [l1]; exact hia), e1 i hia]
      exact h.nn i (by omega)
    · rw [show i = (cutL l 0 a).length + (i - a) by rw [l1]; omega, dp_right, e2, dp_cut l _ (by omega)]
      have := h.nn (b + 1 + (i - a)) (by omega)
      omega
  · rw [List.length_append, dp_right, e2, l2, dp_cut l _ (Nat.le_refl _), show b + 1 + (l.length - (b + 1)) = l.length by omega, h.zero]
    omega
/-- A text cut. -/
theorem txtP_cut (l : List Bool) (a b : Nat) : (txtP l).extract a b = txtP (cutL l a b) := by
  unfold txtP cutL
  apply ByteArray.ext
  rw [ByteArray.data_extract]
  simp [List.map_take, List.map_drop, List.extract_toArray]

/-- One step outwards. -/
theorem enc_step {l : List Bool} (h : Bal l) {a b k : Nat} (hc : IsClose l a b) (hk : enc l a = some k) : k < a ∧ l[k]? = some true ∧ dp l k + 1 = dp l a ∧ ∃ j, IsClose l k j := by
  have hen := (enc_iff (Nat.le_of_lt (get_lt hc.opens))).1 hk
  exact ⟨hen.lt, hen.opens, hen.one, h.close hen.opens⟩
/-- Nothing has the list of parents 0: a node that is its own parent. -/
theorem tree_not_self (l : List Bool) : treeP l ≠ [0] := fun h => by
  have hv := treeP_valid (l := l) 0 (by rw [h]; simp)
  rw [h] at hv
  have := hv.2
  simp at this
end Go.Proofs.Ytdpcnbehjgpgeaa
