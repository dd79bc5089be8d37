/-
  Plain mathematics of texts that are written from the front, of no program: the nodes that are open at a text's end, what closing and opening make of them and of the parents; where a parent is not open, no text has these parents. No condition but what each theorem names.
-/
import Derived.Test.YtdpcnbehjgpgeaaParMid
import Derived.Test.YtdpcnbehjgpgeaaKeep7
namespace Go.Proofs.Ytdpcnbehjgpgeaa
open Go Go.RowKit Words

theorem pst_left {a b : List Bool} : ∀ {i : Nat}, i ≤ a.length → pst (a ++ b) i = pst a i
  | 0, _ => rfl
  | i + 1, h => by rw [pst, pst, pst_left (by omega), List.getElem?_append_left (by omega)]
theorem pst_lt {l : List Bool} : ∀ {i k : Nat}, k ∈ pst l i → k < i
  | 0, k, h => by simp [pst] at h
  | i + 1, k, h => by
    rw [pst] at h
    split at h
    · rcases List.mem_cons.1 h with rfl | h
      · omega
      · have := pst_lt h; omega
    · have := pst_lt (List.mem_of_mem_tail h); omega
theorem encN_left {a b : List Bool} {d : Int} : ∀ {k : Nat}, k ≤ a.length → encN (a ++ b) d k = encN a d k
  | 0, _ => rfl
  | k + 1, h => by rw [encN, encN, encN_left (by omega), dp_left (by omega)]
theorem enc_left {a b : List Bool} {i : Nat} (h : i ≤ a.length) : enc (a ++ b) i = enc a i := by unfold enc; rw [dp_left h, encN_left h]
theorem parP_left {a b : List Bool} {i : Nat} (h : i ≤ a.length) : parP (a ++ b) i = parP a i := by
  unfold parP
  rw [enc_left h]
  cases he : enc a i with
  | none => rfl
  | some k =>
    have := (encN_some he).1
    show ((cntO (a ++ b) k : Nat) : Int) = _
    rw [cntO_left (by omega)]
theorem opensTo_left {a b : List Bool} : ∀ {i : Nat}, i ≤ a.length → opensTo (a ++ b) i = opensTo a i
  | 0, _ => rfl
  | i + 1, h => by rw [opensTo, opensTo, opensTo_left (by omega), List.getElem?_append_left (by omega)]
theorem opensTo_lt {l : List Bool} {i k : Nat} (h : k ∈ opensTo l i) : k < i := by
  obtain ⟨n, hn⟩ := List.mem_iff_getElem?.1 h
  exact ((opensTo_get l i n k).1 hn).1
theorem get_end (a : List Bool) (x : Bool) : (a ++ [x])[a.length]? = some x := by rw [List.getElem?_append_right (Nat.le_refl _), Nat.sub_self]; rfl
theorem map_par (a b : List Bool) : (opensTo a a.length).map (parP (a ++ b)) = (opensTo a a.length).map (parP a) :=
  List.map_congr_left fun _ hk => parP_left (Nat.le_of_lt (opensTo_lt hk))
theorem treeP_shut (a : List Bool) : treeP (a ++ [false]) = treeP a := by
  unfold treeP opens
  rw [List.length_append]
  show (opensTo (a ++ [false]) (a.length + 1)).map _ = _
  rw [opensTo_no (by rw [get_end]; simp), opensTo_left (Nat.le_refl _), map_par]
theorem treeP_open (a : List Bool) : treeP (a ++ [true]) = treeP a ++ [parP a a.length] := by
  unfold treeP opens
  rw [List.length_append]
  show (opensTo (a ++ [true]) (a.length + 1)).map _ = _
  rw [opensTo_up (get_end a true), opensTo_left (Nat.le_refl _), List.map_append, map_par]
  show _ ++ [parP (a ++ [true]) a.length] = _
  rw [parP_left (Nat.le_refl _)]

/-- m times ')'. -/
def shuts (m : Nat) : List Bool := List.replicate m false
theorem shuts_succ (m : Nat) : shuts (m + 1) = shuts m ++ [false] := by unfold shuts; rw [List.replicate_succ']
theorem shuts_length (m : Nat) : (shuts m).length = m := List.length_replicate
theorem treeP_shuts (t : List Bool) : ∀ m, treeP (t ++ shuts m) = treeP t
  | 0 => by simp [shuts]
  | m + 1 => by rw [shuts_succ, ← List.append_assoc, treeP_shut, treeP_shuts t m]
theorem PreB.shuts {t : List Bool} {d : Nat} (h : PreB t d) : ∀ m, m ≤ d → PreB (t ++ shuts m) (d - m)
  | 0, _ => by simpa [Go.Proofs.Ytdpcnbehjgpgeaa.shuts] using h
  | m + 1, hm => by
    have ih := PreB.shuts h m (by omega)
    rw [show d - m = d - (m + 1) + 1 by omega] at ih
    rw [shuts_succ, ← List.append_assoc]
    exact ih.down
theorem PreB.whole {t : List Bool} {d : Nat} (h : PreB t d) : Bal (t ++ Go.Proofs.Ytdpcnbehjgpgeaa.shuts d) := by
  have := h.shuts d (Nat.le_refl _)
  rw [Nat.sub_self] at this
  exact this.bal
theorem oc_shuts (t : List Bool) (m : Nat) : oc (t ++ shuts m) = oc t := by
  have h1 := treeP_length (t ++ shuts m)
  have h2 := treeP_length t
  rw [treeP_shuts] at h1
  unfold oc
  omega
/-- Where nothing opens, the innermost ones go. -/
theorem pst_drop {l : List Bool} {q : Nat} : ∀ m, (∀ j, q ≤ j → j < q + m → l[j]? ≠ some true) → pst l (q + m) = (pst l q).drop m
  | 0, _ => rfl
  | m + 1, h => by
    have ih := pst_drop m fun j h1 h2 => h j h1 (by omega)
    rw [← Nat.add_assoc, pst, if_neg (h (q + m) (by omega) (by omega)), ih, List.tail_drop]

/-- The open nodes at a place, the innermost first. -/
def stkAt (l : List Bool) (i : Nat) : List Nat := (pst l i).map (cntO l)
theorem stkAt_left {a b : List Bool} {i : Nat} (h : i ≤ a.length) : stkAt (a ++ b) i = stkAt a i := by
  unfold stkAt
  rw [pst_left h]
  exact List.map_congr_left fun k hk => cntO_left (by have := pst_lt hk; omega)
theorem stkAt_drop {l : List Bool} {q m : Nat} (h : ∀ j, q ≤ j → j < q + m → l[j]? ≠ some true) : stkAt l (q + m) = (stkAt l q).drop m := by
  unfold stkAt
  rw [pst_drop m h, List.map_drop]
/-- What a node's parent is. -/
def topOf7 (R : List Nat) : Int := match R.head? with | some k => (k : Int) | none => -1
theorem parP_stk {l : List Bool} (h : Bal l) {i : Nat} (hi : i ≤ l.length) : parP l i = topOf7 (stkAt l i) := by
  unfold parP topOf7 stkAt
  rw [enc_pst h hi, List.head?_map]
  cases (pst l i).head? <;> rfl
theorem shuts_none (t : List Bool) (m : Nat) {j : Nat} (hj : t.length ≤ j) : (t ++ shuts m)[j]? ≠ some true := by
  rw [List.getElem?_append_right hj]
  unfold shuts
  rw [List.getElem?_replicate]
  split <;> simp

/-- The open nodes at a text's end, the outermost first. -/
def opn (t : List Bool) : List Nat := (stkAt t t.length).reverse
theorem opn_shuts (t : List Bool) (m : Nat) : opn (t ++ shuts m) = (opn t).take ((opn t).length - m) := by
  unfold opn
  rw [List.length_append, shuts_length, stkAt_drop (fun j h1 _ => shuts_none t m h1), stkAt_left (Nat.le_refl _), List.length_reverse, List.take_reverse]
  by_cases h : m ≤ (stkAt t t.length).length
  · rw [show (stkAt t t.length).length - ((stkAt t t.length).length - m) = m by omega]
  · rw [List.drop_eq_nil_of_le (by omega), List.drop_eq_nil_of_le (by omega)]
theorem opn_open (t : List Bool) : opn (t ++ [true]) = opn t ++ [oc t] := by
  unfold opn
  rw [List.length_append]
  show (stkAt (t ++ [true]) (t.length + 1)).reverse = _
  have e : stkAt (t ++ [true]) (t.length + 1) = oc t :: stkAt t t.length := by
    unfold stkAt
    rw [pst_up (get_end t true), List.map_cons]
    have h1 := stkAt_left (a := t) (b := [true]) (Nat.le_refl _)
    unfold stkAt at h1
    rw [h1, cntO_left (Nat.le_refl _)]
    rfl
  rw [e, List.reverse_cons]
theorem opn_length {t : List Bool} {d : Nat} (h : PreB t d) : (opn t).length = d := by
  have h1 := (pst_get h.whole t.length (by rw [List.length_append]; omega)).1
  rw [pst_left (Nat.le_refl _), dp_left (Nat.le_refl _), h.last] at h1
  unfold opn stkAt
  rw [List.length_reverse, List.length_map]
  omega
/-- A node's parent is the innermost of the open ones. -/
theorem parP_opn {t : List Bool} {d : Nat} (h : PreB t d) : parP t t.length = match (opn t).getLast? with | some k => (k : Int) | none => -1 := by
  have h1 := parP_stk h.whole (i := t.length) (by rw [List.length_append]; omega)
  rw [parP_left (Nat.le_refl _), stkAt_left (Nat.le_refl _)] at h1
  rw [h1]
  unfold opn topOf7
  rw [List.getLast?_reverse]

/-- A text that has been written from the front: the first i nodes. -/
structure TxAt (ps : List Int) (i : Nat) (t : List Bool) (S : List Nat) : Prop where
  pre : PreB t S.length
  stk : S = opn t
  tree : treeP t = ps.take i
  num : oc t = i
  last : t = [] ∨ ∃ t0, t = t0 ++ [true]

theorem TxAt.start (ps : List Int) : TxAt ps 0 [] [] := ⟨PreB.nil, rfl, rfl, rfl, .inl rfl⟩
theorem TxAt.len {ps : List Int} {i : Nat} {t : List Bool} {S : List Nat} (h : TxAt ps i t S) : t.length + S.length = 2 * i := by
  have := h.pre.two
  rw [h.num] at this
  exact this
/-- A node whose parent is open, or that has none. -/
theorem TxAt.step {ps : List Int} {i dep : Nat} {t : List Bool} {S : List Nat} {p : Int} (h : TxAt ps i t S) (hp : ps[i]? = some p) (hd : dep ≤ S.length)
    (hpar : (dep = 0 ∧ p = -1) ∨ ∃ j k : Nat, dep = j + 1 ∧ S[j]? = some k ∧ p = (k : Int)) :
    TxAt ps (i + 1) (t ++ shuts (S.length - dep) ++ [true]) (S.take dep ++ [i]) := by
  have hpre := h.pre.shuts (S.length - dep) (by omega)
  rw [show S.length - (S.length - dep) = dep by omega] at hpre
  have hop : opn (t ++ shuts (S.length - dep)) = S.take dep := by
    rw [opn_shuts, ← h.stk]
    congr 1
    omega
  have hpp : parP (t ++ shuts (S.length - dep)) (t ++ shuts (S.length - dep)).length = p := by
    rw [parP_opn hpre, hop]
    rcases hpar with ⟨rfl, rfl⟩ | ⟨j, k, rfl, hk, rfl⟩
    · rfl
    · rw [List.take_add_one, hk]
      simp
  refine ⟨?_, ?_, ?_, ?_, .inr ⟨_, rfl⟩⟩
  · have := hpre.up
    rw [List.length_append, List.length_take]
    rw [Nat.min_eq_left hd]
    exact this
  · rw [opn_open, hop, oc_shuts, h.num]
  · rw [treeP_open, treeP_shuts, h.tree, hpp, List.take_add_one, hp]
    rfl
  · rw [oc_append, oc_shuts, h.num]
    rfl
/-- All nodes. -/
theorem TxAt.done {ps : List Int} {t : List Bool} {S : List Nat} (h : TxAt ps ps.length t S) : Bal (t ++ shuts S.length) ∧ treeP (t ++ shuts S.length) = ps :=
  ⟨h.pre.whole, by rw [treeP_shuts, h.tree, List.take_length]⟩

theorem treeP_take {l : List Bool} {a : Nat} (ha : a ≤ l.length) : treeP (l.take a) = (treeP l).take (cntO l a) := by
  have hlen : (l.take a).length = a := by rw [List.length_take]; omega
  have hcn : ∀ k, k ≤ a → cntO (l.take a) k = cntO l k := fun k hk => by
    conv => rhs; rw [← List.take_append_drop a l]
    rw [cntO_left (by omega)]
  have hpa : ∀ k, k ≤ a → parP (l.take a) k = parP l k := fun k hk => by
    conv => rhs; rw [← List.take_append_drop a l]
    rw [parP_left (by omega)]
  apply List.ext_getElem?
  intro n
  by_cases hn : n < cntO l a
  · have hn2 : n < (opens (l.take a)).length := by rw [opens_length, hlen, hcn a (Nat.le_refl _)]; exact hn
    have hg := List.getElem?_eq_getElem hn2
    obtain ⟨h1, h2⟩ := (opens_get _ _ _).1 hg
    have hk := get_lt h1
    rw [hlen] at hk
    rw [treeP_get hg, List.getElem?_take, if_pos hn, hpa _ (by omega)]
    refine (treeP_get ((opens_get l _ _).2 ⟨?_, ?_⟩)).symm
    · rw [List.getElem?_take, if_pos hk] at h1; exact h1
    · rw [← hcn _ (by omega)]; exact h2
  · rw [List.getElem?_eq_none (by rw [treeP_length, hlen, hcn a (Nat.le_refl _)]; omega), List.getElem?_take, if_neg hn]
theorem pre_take {l : List Bool} (h : Bal l) {a : Nat} (ha : a ≤ l.length) : ∃ d, PreB (l.take a) d := by
  have hlen : (l.take a).length = a := by rw [List.length_take]; omega
  have hdp : ∀ k, k ≤ a → dp (l.take a) k = dp l k := fun k hk => by
    conv => rhs; rw [← List.take_append_drop a l]
    rw [dp_left (by omega)]
  refine ⟨(dp l a).toNat, fun i hi => ?_, ?_⟩
  · rw [hlen] at hi; rw [hdp i hi]; exact h.nn i (by omega)
  · rw [hlen, hdp a (Nat.le_refl _)]
    have := h.nn a ha
    omega
/-- Where a node's parent is not open, no text has these parents. -/
theorem TxAt.fail {ps : List Int} {i : Nat} {t : List Bool} {S : List Nat} {p : Int} (h : TxAt ps i t S) (hp : ps[i]? = some p) (h1 : p ≠ -1) (h2 : ∀ j k : Nat, S[j]? = some k → p ≠ (k : Int)) : ¬ ∃ l, Bal l ∧ treeP l = ps := by
  rintro ⟨l, hl, rfl⟩
  have hil := get_lt hp
  rw [treeP_length] at hil
  have hil2 : i < (opens l).length := by rw [opens_length]; exact hil
  have hg := List.getElem?_eq_getElem hil2
  generalize (opens l)[i] = a at hg
  obtain ⟨ho, hc⟩ := (opens_get l _ _).1 hg
  rw [treeP_get hg] at hp
  obtain rfl := Option.some.inj hp
  have hal := get_lt ho
  obtain ⟨d, hd⟩ := pre_take hl (Nat.le_of_lt hal)
  have hlen : (l.take a).length = a := by rw [List.length_take]; omega
  have he : t ++ shuts S.length = l.take a ++ shuts d := by
    refine treeP_inj h.pre.whole hd.whole ?_
    rw [treeP_shuts, treeP_shuts, h.tree, treeP_take (Nat.le_of_lt hal), hc]
  have hq : t.length ≤ a := by
    rcases h.last with rfl | ⟨t0, rfl⟩
    · exact Nat.zero_le _
    · rw [List.length_append]
      show t0.length + 1 ≤ a
      rcases Nat.lt_or_ge t0.length a with e | e
      · exact e
      · have hx : ((t0 ++ [true]) ++ shuts S.length)[t0.length]? = some true := by rw [List.getElem?_append_left (by simp)]; exact get_end t0 true
        rw [he] at hx
        exact absurd hx (shuts_none _ _ (by rw [hlen]; exact e))
  have hal2 : a ≤ (l.take a ++ shuts d).length := by rw [List.length_append, hlen]; omega
  have hpar : parP l a = topOf7 (stkAt (l.take a ++ shuts d) a) := by
    rw [← parP_stk hd.whole hal2, parP_left (by rw [hlen]; exact Nat.le_refl _)]
    conv => lhs; rw [← List.take_append_drop a l]
    rw [parP_left (by rw [hlen]; exact Nat.le_refl _)]
  have hst : stkAt (t ++ shuts S.length) a = (stkAt t t.length).drop (a - t.length) := by
    have := stkAt_drop (l := t ++ shuts S.length) (q := t.length) (m := a - t.length) (fun j g1 _ => shuts_none t _ g1)
    rw [show t.length + (a - t.length) = a by omega, stkAt_left (Nat.le_refl _)] at this
    exact this
  rw [← he, hst] at hpar
  unfold topOf7 at hpar
  cases hh : ((stkAt t t.length).drop (a - t.length)).head? with
  | none => rw [hh] at hpar; exact h1 hpar
  | some k =>
    rw [hh] at hpar
    have hk : k ∈ S := by
      rw [h.stk]
      unfold opn
      rw [List.mem_reverse]
      exact List.mem_of_mem_drop (List.mem_of_mem_head? hh)
    obtain ⟨j, hj⟩ := List.mem_iff_getElem?.1 hk
    exact h2 j k hj hpar
end Go.Proofs.Ytdpcnbehjgpgeaa
