/-
  Plain mathematics of texts that are built from parents, of no program: from the last node on, each node with all that are its own; out of the parents of a balanced text comes that text. No condition but what each theorem names.
-/
import Derived.Test.YtdpcnbehjgpgeaaParens
namespace Go.Proofs.Ytdpcnbehjgpgeaa.Words
open Go Go.RowKit

theorem dp_left {a b : List Bool} {i : Nat} (h : i ≤ a.length) : dp (a ++ b) i = dp a i := by
  induction i with
  | zero => rfl
  | succ i ih => rw [dp, dp, ih (by omega), List.getElem?_append_left (by omega)]
theorem dp_right (a b : List Bool) (i : Nat) : dp (a ++ b) (a.length + i) = dp a a.length + dp b i := by
  induction i with
  | zero => rw [Nat.add_zero, dp_left (Nat.le_refl _)]; show _ = _ + 0; omega
  | succ i ih =>
    rw [← Nat.add_assoc, dp, dp, ih, List.getElem?_append_right (by omega), show a.length + i - a.length = i by omega]
    omega
theorem Bal.append {a b : List Bool} (ha : Bal a) (hb : Bal b) : Bal (a ++ b) := by
  refine ⟨fun i hi => ?_, ?_⟩
  · by_cases h : i ≤ a.length
    · rw [dp_left h]; exact ha.nn i h
    · rw [show i = a.length + (i - a.length) by omega, dp_right, ha.zero]
      have := hb.nn (i - a.length) (by rw [List.length_append] at hi; omega)
      omega
  · rw [List.length_append, dp_right, ha.zero, hb.zero]; rfl
theorem Bal.wrap {a : List Bool} (ha : Bal a) : Bal (true :: (a ++ [false])) := by
  have e : true :: (a ++ [false]) = [true] ++ (a ++ [false]) := rfl
  have h1 : dp [true] ([true] : List Bool).length = 1 := rfl
  refine ⟨fun i hi => ?_, ?_⟩
  · cases i with
    | zero => exact Int.le_refl _
    | succ i =>
      rw [e, show i + 1 = ([true] : List Bool).length + i by simp; omega, dp_right, h1]
      have hi2 : i ≤ a.length + 1 := by simp at hi; omega
      by_cases h : i ≤ a.length
      · rw [dp_left h]; have := ha.nn i h; omega
      · rw [show i = a.length + 1 by omega, dp_right, ha.zero]
        show (0 : Int) ≤ 1 + (0 + dp [false] 1)
        decide
  · rw [e, List.length_append, dp_right, h1, List.length_append, dp_right, ha.zero]
    rfl

/-- How many open. -/
def oc (l : List Bool) : Nat := cntO l l.length
theorem cntO_left {a b : List Bool} {i : Nat} (h : i ≤ a.length) : cntO (a ++ b) i = cntO a i := by
  induction i with
  | zero => rfl
  | succ i ih => rw [cntO, cntO, ih (by omega), List.getElem?_append_left (by omega)]
theorem cntO_right (a b : List Bool) (i : Nat) : cntO (a ++ b) (a.length + i) = cntO a a.length + cntO b i := by
  induction i with
  | zero => rw [Nat.add_zero, cntO_left (Nat.le_refl _)]; rfl
  | succ i ih =>
    rw [← Nat.add_assoc, cntO, cntO, ih, List.getElem?_append_right (by omega), show a.length + i - a.length = i by omega]
    omega
theorem oc_append (a b : List Bool) : oc (a ++ b) = oc a + oc b := by unfold oc; rw [List.length_append, cntO_right]
theorem oc_wrap (a : List Bool) : oc (true :: (a ++ [false])) = oc a + 1 := by
  have e : true :: (a ++ [false]) = [true] ++ (a ++ [false]) := rfl
  rw [e, oc_append, oc_append]
  show 1 + (oc a + 0) = _
  omega
theorem Bal.two {l : List Bool} (h : Bal l) : l.length = 2 * oc l := by
  have h1 := cntO_dp (l := l) l.length (Nat.le_refl _)
  rw [h.zero] at h1
  unfold oc
  omega

/-- The text of node i with all that are its own. -/
def nodeT (own : List (List Bool)) (i : Nat) : List Bool := true :: (own.getD i [] ++ [false])
/-- One node is done. -/
def bstep (ps : List Int) (i : Nat) (s : List (List Bool) × List Bool) : List (List Bool) × List Bool :=
  if ps.getD i 0 < 0 then (s.1, nodeT s.1 i ++ s.2) else (s.1.set (ps.getD i 0).toNat (nodeT s.1 i ++ s.1.getD (ps.getD i 0).toNat []), s.2)
/-- The last k of n nodes are done. -/
def bst (ps : List Int) (n : Nat) : Nat → List (List Bool) × List Bool
  | 0 => (List.replicate n [], [])
  | k + 1 => bstep ps (n - 1 - k) (bst ps n k)

/-- Each node comes behind its parent. -/
def Valid7 (ps : List Int) : Prop := ∀ i, i < ps.length → -1 ≤ ps.getD i 0 ∧ ps.getD i 0 < (i : Int)

/-- How many open in the first i. -/
def sumO (own : List (List Bool)) : Nat → Nat
  | 0 => 0
  | j + 1 => sumO own j + oc (own.getD j [])
theorem getD_set {α : Type} (l : List α) (i j : Nat) (x z : α) (h : i < l.length) : (l.set i x).getD j z = if i = j then x else l.getD j z := by
  rw [List.getD, List.getD, List.getElem?_set]
  by_cases e : i = j
  · subst e; simp [h]
  · simp [e]
theorem sumO_set (own : List (List Bool)) (p : Nat) (t : List Bool) (hp : p < own.length) : ∀ i, sumO (own.set p (t ++ own.getD p [])) i = sumO own i + if p < i then oc t else 0
  | 0 => by rw [if_neg (by omega)]; rfl
  | i + 1 => by
    rw [sumO, sumO, sumO_set own p t hp i, getD_set _ _ _ _ _ hp]
    by_cases e : p = i
    · subst e
      rw [if_pos rfl, if_neg (by omega), if_pos (by omega), oc_append]
      omega
    · rw [if_neg e]
      by_cases h : p < i
      · rw [if_pos h, if_pos (by omega)]; omega
      · rw [if_neg h, if_neg (by omega)]; omega
theorem sumO_ge (own : List (List Bool)) {j i : Nat} (h : j < i) : oc (own.getD j []) ≤ sumO own i := by
  induction i with
  | zero => omega
  | succ i ih =>
    rw [sumO]
    by_cases e : j = i
    · rw [e]; omega
    · have := ih (by omega); omega

/-- What is built is balanced, and has as many pairs as nodes are done. -/
structure Built (n k : Nat) (s : List (List Bool) × List Bool) : Prop where
  len : s.1.length = n
  own : ∀ j, Bal (s.1.getD j [])
  out : Bal s.2
  sum : sumO s.1 (n - k) + oc s.2 = k

theorem Built.start (n : Nat) : Built n 0 (List.replicate n [], []) := by
  have hg : ∀ j, (List.replicate n ([] : List Bool)).getD j [] = [] := fun j => by
    rw [List.getD, List.getElem?_replicate]
    split <;> rfl
  refine ⟨by simp, fun j => by show Bal ((List.replicate n ([] : List Bool)).getD j []); rw [hg]; exact Bal.nil, Bal.nil, ?_⟩
  have : ∀ i, sumO (List.replicate n ([] : List Bool)) i = 0 := fun i => by
    induction i with
    | zero => rfl
    | succ i ih => rw [sumO, ih, hg]; rfl
  show sumO (List.replicate n ([] : List Bool)) _ + 0 = 0
  rw [this]

theorem Built.step {n k i : Nat} {s : List (List Bool) × List Bool} (ih : Built n k s) (hi : n = i + 1 + k) (ps : List Int) (h1 : -1 ≤ ps.getD i 0) (h2 : ps.getD i 0 < (i : Int)) : Built n (k + 1) (bstep ps i s) := by
  have e2 : n - k = i + 1 := by omega
  have e3 : n - (k + 1) = i := by omega
  have hs := ih.sum
  rw [e2, sumO] at hs
  have hb := (ih.own i).wrap
  have ho := oc_wrap (s.1.getD i [])
  unfold bstep nodeT
  generalize hp : ps.getD i 0 = p at *
  by_cases hneg : p < 0
  · rw [if_pos hneg]
    refine ⟨ih.len, ih.own, hb.append ih.out, ?_⟩
    show sumO s.1 (n - (k + 1)) + oc (_ ++ s.2) = k + 1
    rw [e3, oc_append, ho]
    omega
  · rw [if_neg hneg]
    obtain ⟨q, rfl⟩ := Int.eq_ofNat_of_zero_le (a := p) (by omega)
    rw [Int.toNat_natCast]
    have hq : q < i := by omega
    have hin : q < s.1.length := by rw [ih.len]; omega
    refine ⟨by rw [List.length_set]; exact ih.len, fun j => ?_, ih.out, ?_⟩
    · show Bal ((s.1.set q _).getD j [])
      rw [getD_set _ _ _ _ _ hin]
      split
      · exact hb.append (ih.own q)
      · exact ih.own j
    · show sumO (s.1.set q _) (n - (k + 1)) + oc s.2 = k + 1
      rw [e3, sumO_set _ _ _ hin, if_pos hq, ho]
      omega
theorem Built.own_le {n k : Nat} {s : List (List Bool) × List Bool} (h : Built n k s) {j : Nat} (hj : j < n - k) : (s.1.getD j []).length ≤ 2 * k := by
  have h1 := sumO_ge s.1 hj
  have h2 := h.sum
  rw [(h.own j).two]
  omega
theorem Built.out_le {n k : Nat} {s : List (List Bool) × List Bool} (h : Built n k s) : s.2.length ≤ 2 * k := by
  have h2 := h.sum
  rw [h.out.two]
  omega
theorem Built.done {n : Nat} {s : List (List Bool) × List Bool} (h : Built n n s) : oc s.2 = n := by
  have h2 := h.sum
  rw [Nat.sub_self] at h2
  show oc s.2 = n
  have : sumO s.1 0 = 0 := rfl
  omega

/-- A part of a list. -/
def cutL (l : List Bool) (a b : Nat) : List Bool := (l.drop a).take (b - a)
theorem cutL_nil (l : List Bool) {a b : Nat} (h : b ≤ a) : cutL l a b = [] := by unfold cutL; rw [show b - a = 0 by omega]; rfl
theorem cutL_join (l : List Bool) {a b c : Nat} (h1 : a ≤ b) (h2 : b ≤ c) : cutL l a b ++ cutL l b c = cutL l a c := by
  unfold cutL
  rw [show c - a = (b - a) + (c - b) by omega, List.take_add, List.drop_drop, show a + (b - a) = b by omega]
theorem cutL_one {l : List Bool} {a : Nat} {x : Bool} (h : l[a]? = some x) : cutL l a (a + 1) = [x] := by
  unfold cutL
  have hl := get_lt h
  rw [List.getElem?_eq_getElem hl] at h
  rw [show a + 1 - a = 1 by omega, List.drop_eq_getElem_cons hl, Option.some.inj h]
  rfl
theorem cutL_all (l : List Bool) : cutL l 0 l.length = l := by unfold cutL; simp

/-- The first place from q on with depth d, or the end; m: how many places are left. -/
def firstD (l : List Bool) (d : Int) : Nat → Nat
  | 0 => l.length
  | m + 1 => if dp l (l.length - (m + 1)) = d then l.length - (m + 1) else firstD l d m
def first7 (l : List Bool) (q : Nat) (d : Int) : Nat := firstD l d (l.length - q)
theorem first7_end (l : List Bool) (d : Int) : first7 l l.length d = l.length := by unfold first7; rw [Nat.sub_self]; rfl
theorem first7_step {l : List Bool} {q : Nat} (h : q < l.length) (d : Int) : first7 l q d = if dp l q = d then q else first7 l (q + 1) d := by
  unfold first7
  rw [show l.length - q = (l.length - (q + 1)) + 1 by omega, firstD, show l.length - (l.length - (q + 1) + 1) = q by omega]
theorem first7_ge (l : List Bool) (d : Int) : ∀ m q, q ≤ l.length → l.length - q ≤ m → q ≤ first7 l q d
  | 0, q, h1, h2 => by
    obtain rfl : q = l.length := by omega
    rw [first7_end]; exact Nat.le_refl _
  | m + 1, q, h1, h2 => by
    by_cases e : q = l.length
    · subst e; rw [first7_end]; exact Nat.le_refl _
    · rw [first7_step (by omega)]
      split
      · exact Nat.le_refl _
      · have := first7_ge l d m (q + 1) (by omega) (by omega)
        omega
/-- Behind a pair. -/
theorem first7_close {l : List Bool} {d : Int} {c : Nat} (hc : c < l.length) (hd : dp l (c + 1) = d) : ∀ m q, q ≤ c + 1 → c + 1 - q ≤ m → (∀ k, q ≤ k → k ≤ c → dp l k ≠ d) → first7 l q d = c + 1
  | 0, q, h1, h2, _ => by
    obtain rfl : q = c + 1 := by omega
    by_cases e : c + 1 = l.length
    · rw [e, first7_end]
    · rw [first7_step (by omega), if_pos hd]
  | m + 1, q, h1, h2, h3 => by
    by_cases e : q = c + 1
    · exact first7_close hc hd 0 q h1 (by omega) h3
    · rw [first7_step (by omega), if_neg (h3 q (Nat.le_refl _) (by omega))]
      exact first7_close hc hd m (q + 1) (by omega) (by omega) fun k g1 g2 => h3 k (by omega) g2

/-- What is built, by places: of each node that opens ahead of place q all that are its own from q on. -/
structure PosAt (l : List Bool) (q : Nat) (s : List (List Bool) × List Bool) : Prop where
  own : ∀ o c, o < q → IsClose l o c → s.1.getD (cntO l o) [] = cutL l (first7 l q (dp l o + 1)) c
  out : s.2 = cutL l (first7 l q 0) l.length

theorem posAt_end (l : List Bool) (n : Nat) : PosAt l l.length (List.replicate n [], []) := by
  refine ⟨fun o c _ hc => ?_, ?_⟩
  · rw [first7_end, cutL_nil l (Nat.le_of_lt (get_lt hc.shuts)), List.getD, List.getElem?_replicate]
    split <;> rfl
  · rw [first7_end, cutL_nil l (Nat.le_refl _)]

theorem posAt_shut {l : List Bool} (h : Bal l) {q : Nat} (hq : l[q]? = some false) {s : List (List Bool) × List Bool} (hp : PosAt l (q + 1) s) : PosAt l q s := by
  have hql := get_lt hq
  have hdn := dp_down hq
  have hnn := h.nn (q + 1) (by omega)
  refine ⟨fun o c ho hc => ?_, ?_⟩
  · rw [hp.own o c (by omega) hc, first7_step hql]
    split
    · rename_i e
      have hcq : c ≤ q := by
        rcases Nat.lt_or_ge q c with h1 | h1
        · have := hc.btw (q + 1) (by omega) (by omega); omega
        · exact h1
      rw [cutL_nil l hcq]
      have := first7_ge l (dp l o + 1) (l.length - (q + 1)) (q + 1) (by omega) (Nat.le_refl _)
      rw [cutL_nil l (by omega)]
    · rfl
  · rw [hp.out, first7_step hql, if_neg (by omega)]

theorem nodeT_cut {l : List Bool} {q c : Nat} {own : List (List Bool)} (hc : IsClose l q c) (h : own.getD (cntO l q) [] = cutL l (q + 1) c) : nodeT own (cntO l q) = cutL l q (c + 1) := by
  have hl := hc.lt
  unfold nodeT
  rw [h, ← cutL_join l (show q ≤ q + 1 by omega) (show q + 1 ≤ c + 1 by omega), cutL_one hc.opens, ← cutL_join l (show q + 1 ≤ c by omega) (show c ≤ c + 1 by omega), cutL_one hc.shuts]
  rfl

theorem posAt_open {l : List Bool} (h : Bal l) {q : Nat} (hq : l[q]? = some true) {s : List (List Bool) × List Bool} (hp : PosAt l (q + 1) s) (hlen : s.1.length = cntO l l.length) : PosAt l q (bstep (treeP l) (cntO l q) s) := by
  have hql := get_lt hq
  have hup := dp_up hq
  have hnn := h.nn q (by omega)
  obtain ⟨c, hc⟩ := h.close hq
  have hcl := get_lt hc.shuts
  have hqc := hc.lt
  have hself : s.1.getD (cntO l q) [] = cutL l (q + 1) c := by
    rw [hp.own q c (by omega) hc]
    congr 1
    by_cases e : q + 1 = l.length
    · omega
    · rw [first7_step (by omega), if_pos hup]
  have ht := nodeT_cut hc hself
  have hback : first7 l (q + 1) (dp l q) = c + 1 := first7_close hcl hc.back (c + 1) (q + 1) (by omega) (by omega) fun k h1 h2 => by have := hc.btw k (by omega) h2; omega
  have hps : (treeP l).getD (cntO l q) 0 = parP l q := by
    rw [List.getD, treeP_get ((opens_get l _ _).2 ⟨hq, rfl⟩)]
    rfl
  unfold bstep
  rw [hps, ht]
  cases he : enc l q with
  | none =>
    have h0 := (enc_none_iff h (by omega)).1 he
    have hpp : parP l q = -1 := by unfold parP; rw [he]
    rw [hpp, if_pos (by decide)]
    refine ⟨fun o c' ho hc' => ?_, ?_⟩
    · show s.1.getD _ [] = _
      rw [hp.own o c' (by omega) hc', first7_step hql, if_neg (by have := h.nn o (by omega); omega)]
    · show cutL l q (c + 1) ++ s.2 = _
      rw [hp.out, first7_step hql, if_pos h0, show (0 : Int) = dp l q from h0.symm, hback, cutL_join l (by omega) (by omega)]
  | some o' =>
    have hen := (enc_iff (by omega)).1 he
    have hone := hen.one
    have hoq := hen.lt
    obtain ⟨c', hc'⟩ := h.close hen.opens
    have hcc := enc_far hc hen hc'
    have hpp : parP l q = (cntO l o' : Nat) := by unfold parP; rw [he]
    have hlt : cntO l o' < s.1.length := by
      rw [hlen]
      have h1 := cntO_up hen.opens
      have h2 := cntO_mono l (show o' + 1 ≤ l.length by omega)
      omega
    rw [hpp, if_neg (by omega), Int.toNat_natCast]
    have hno := h.nn o' (by omega)
    refine ⟨fun o d ho hd => ?_, ?_⟩
    · show (s.1.set (cntO l o') _).getD _ [] = _
      rw [getD_set _ _ _ _ _ hlt, first7_step hql]
      by_cases e : o' = o
      · subst e
        obtain rfl := hc'.uniq hd
        rw [if_pos rfl, if_pos (by omega), hp.own o' c' (by omega) hc', show dp l o' + 1 = dp l q from hone, hback, cutL_join l (by omega) (by omega)]
      · have hne : cntO l o' ≠ cntO l o := fun e2 => by
          rcases Nat.lt_or_ge o' o with h1 | h1
          · have := cntO_mono l (show o' + 1 ≤ o by omega)
            rw [cntO_up hen.opens] at this; omega
          · have := cntO_mono l (show o + 1 ≤ o' by omega)
            rw [cntO_up hd.opens] at this; omega
        rw [if_neg hne, hp.own o d (by omega) hd]
        split
        · rename_i e2
          have hdq : d ≤ q := by
            rcases Nat.lt_or_ge q d with h1 | h1
            · refine absurd (hen.uniq ⟨ho, hd.opens, e2.symm, fun m g1 g2 => ?_⟩) e
              have := hd.btw m g1 (by omega)
              omega
            · exact h1
          have := first7_ge l (dp l o + 1) (l.length - (q + 1)) (q + 1) (by omega) (Nat.le_refl _)
          rw [cutL_nil l hdq, cutL_nil l (by omega)]
        · rfl
    · show s.2 = _
      rw [hp.out, first7_step hql, if_neg (by omega)]

theorem bst_len (ps : List Int) (n : Nat) : ∀ k, (bst ps n k).1.length = n
  | 0 => by simp [bst]
  | k + 1 => by
    rw [bst]
    unfold bstep
    split
    · exact bst_len ps n k
    · show (List.set _ _ _).length = n
      rw [List.length_set]; exact bst_len ps n k

theorem bst_pos {l : List Bool} (h : Bal l) : ∀ m, m ≤ l.length → PosAt l (l.length - m) (bst (treeP l) (oc l) (oc l - cntO l (l.length - m)))
  | 0, _ => by
    rw [Nat.sub_zero, show oc l - cntO l l.length = 0 from Nat.sub_self _]
    exact posAt_end l _
  | m + 1, hm => by
    have ih := bst_pos h m (by omega)
    obtain ⟨q, hq⟩ : ∃ q, l.length - m = q + 1 := ⟨l.length - m - 1, by omega⟩
    rw [hq] at ih
    rw [show l.length - (m + 1) = q by omega]
    rcases get_or (show q < l.length by omega) with e | e
    · have hup := cntO_up e
      have hle := cntO_mono l (show q + 1 ≤ l.length by omega)
      have ho : oc l = cntO l l.length := rfl
      have := posAt_open h e ih (by rw [bst_len]; rfl)
      rw [show oc l - cntO l q = (oc l - cntO l (q + 1)) + 1 by omega, bst, show oc l - 1 - (oc l - cntO l (q + 1)) = cntO l q by omega]
      exact this
    · rw [cntO_no (by rw [e]; simp)] at ih
      exact posAt_shut h e ih

/-- Out of the parents comes the text. -/
theorem bst_tree {l : List Bool} (h : Bal l) : (bst (treeP l) (oc l) (oc l)).2 = l := by
  have hp := bst_pos h l.length (Nat.le_refl _)
  rw [Nat.sub_self] at hp
  have := hp.out
  rw [show oc l - cntO l 0 = oc l from rfl] at this
  rw [this]
  by_cases e : l.length = 0
  · rw [List.eq_nil_of_length_eq_zero e]; rfl
  · rw [first7_step (by omega), if_pos (show dp l 0 = 0 from rfl)]
    exact cutL_all l
/-- The parents tell the text. -/
theorem treeP_inj {a b : List Bool} (ha : Bal a) (hb : Bal b) (h : treeP a = treeP b) : a = b := by
  have hn : oc a = oc b := by
    have := congrArg List.length h
    rwa [treeP_length, treeP_length] at this
  rw [← bst_tree ha, ← bst_tree hb, h, hn]
/-- The parents of a text come ahead. -/
theorem treeP_valid {l : List Bool} : Valid7 (treeP l) := by
  intro i hi
  rw [treeP_length] at hi
  have hlt : i < (opens l).length := by rw [opens_length]; exact hi
  obtain ⟨a, hg⟩ : ∃ a, (opens l)[i]? = some a := ⟨_, List.getElem?_eq_getElem hlt⟩
  have hop := (opens_get l _ _).1 hg
  have hal := get_lt hop.1
  rw [List.getD, treeP_get hg]
  show -1 ≤ parP l a ∧ parP l a < (i : Int)
  unfold parP
  cases he : enc l a with
  | none => exact ⟨Int.le_refl _, by show (-1 : Int) < i; omega⟩
  | some k =>
    have hen := (enc_iff (by omega)).1 he
    have h1 := cntO_up hen.opens
    have h2 := cntO_mono l (show k + 1 ≤ a by have := hen.lt; omega)
    show -1 ≤ ((cntO l k : Nat) : Int) ∧ ((cntO l k : Nat) : Int) < (i : Int)
    omega
end Go.Proofs.Ytdpcnbehjgpgeaa.Words
