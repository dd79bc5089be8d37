/-
  Plain mathematics of points in two orders and a wavelet matrix of the places by Y in the order by X: what it counts, its kth. No condition but what each theorem names.
-/
import Derived.Test.YtpkclmfadlkbeaaJ09
import Derived.Test.YtpkclmfadlkbeaaJ10
namespace Go.Proofs.Ytpkclmfadlkbeaa
open Go.Sort Words

/-- Both orders are of valid points. -/
structure V2 (ps : List Pt3) : Prop where
  x : InV ps Pt3.x Pt3.y
  y : InV ps Pt3.y Pt3.x
theorem v2_of {ps : List Pt3} (h : ptsF ps = 0) : V2 ps := by
  obtain ⟨h1, h2⟩ := ptsF_zero h
  have h3 : ∀ i, i < ps.length → InC (ptAt ps i).x ∧ InC (ptAt ps i).y := fun i hi => by
    have := h2 _ (List.mem_of_getElem? (ptAt_get hi))
    unfold ptOk coOk at this
    simp only [Bool.and_eq_true, decide_eq_true_eq] at this
    exact ⟨this.1.1, this.1.2⟩
  exact ⟨⟨h1, fun i hi => (h3 i hi).1, fun i hi => (h3 i hi).2⟩, ⟨h1, fun i hi => (h3 i hi).2, fun i hi => (h3 i hi).1⟩⟩

/-- For each place in the order by X the place in the order by Y. -/
def rowsL (ps : List Pt3) : List Nat := (ordL ps Pt3.x Pt3.y).map (plc ps Pt3.y Pt3.x)
def lvl (n : Nat) : Nat := Lib.bitLen n
theorem lvl_le {n : Nat} (h : n ≤ 150) : lvl n ≤ 21 := by
  have := (bitLen_lt n (by omega) 21).2 (by omega)
  exact this
theorem lt_lvl {n : Nat} (h : n ≤ 150) : n < 2 ^ lvl n := (bitLen_lt n (by omega) _).1 (Nat.le_refl _)
theorem rows_length {ps : List Pt3} (hV : V2 ps) : (rowsL ps).length = ps.length := by unfold rowsL; rw [List.length_map, ordL_length hV.x]
theorem rows_lt {ps : List Pt3} (hV : V2 ps) : ∀ x ∈ rowsL ps, x < 2 ^ lvl ps.length := fun x hx => by
  obtain ⟨i, hi, rfl⟩ := List.mem_map.1 hx
  exact Nat.lt_trans (plc_lt hV.y ((ordL_mem hV.x).1 hi)) (lt_lvl hV.x.few)
/-- The matrix of the rows. -/
def TabOf (ps : List Pt3) (vs : List Lev) : Prop := MadeOf (rowsL ps).length (levs (lvl ps.length) (rowsL ps)) vs
theorem tab_wv {ps : List Pt3} {vs : List Lev} (hV : V2 ps) (hm : TabOf ps vs) : WV ps.length vs := by
  have hl := lvl_le hV.x.few
  have hr := rows_length hV
  rcases Nat.eq_zero_or_pos (lvl ps.length) with h0 | h0
  · have h1 := lt_lvl hV.x.few
    rw [h0] at h1
    have h2 : ps.length = 0 := by simp at h1; simpa using h1
    have h3 := hm.length
    rw [levs_length, h0] at h3
    have h4 : vs = [] := List.eq_nil_of_length_eq_zero h3
    subst h4
    rw [h2]
    exact ⟨by simp, by omega, rfl, fun v hv => by cases hv⟩
  · have := made_wv hm h0 hl (by rw [hr]; have := hV.x.few; omega)
    rwa [hr] at this
theorem tab_len {ps : List Pt3} {vs : List Lev} (hm : TabOf ps vs) : vs.length = lvl ps.length := by
  have := hm.length
  rwa [levs_length] at this

/-- How many of the columns from a to b - 1 have a row less than q. -/
theorem less_tab {ps : List Pt3} {vs : List Lev} (hV : V2 ps) (hm : TabOf ps vs) {a b : Nat} (hab : a ≤ b) (hb : b ≤ ps.length) (q : Nat) :
    lessI ps.length (fns vs) (q : Int) a b = (((List.range ps.length).countP fun i => (decide (a ≤ plc ps Pt3.x Pt3.y i) && decide (plc ps Pt3.x Pt3.y i < b)) && decide (plc ps Pt3.y Pt3.x i < q) : Nat) : Int) := by
  have hr := rows_length hV
  have h1 := made_lsI hm (rows_lt hV)
  rw [hr] at h1
  unfold lessI
  rw [num_count ps.length (fns vs) (fun z => decide (z < (q : Int))) a b hab hb]
  unfold rng
  rw [h1]
  unfold rowsL
  rw [List.map_map, ← List.map_drop, ← List.map_take, List.countP_map, part_filter (fun p i h => plc_at hV.x h) a b hab, List.countP_filter, (ordL_perm hV.x).countP_eq]
  congr 1
  refine List.countP_congr fun i _ => ?_
  simp only [Function.comp, Bool.and_eq_true, decide_eq_true_eq]
  omega

/-- The columns and the rows of a rectangle. -/
def cLo (ps : List Pt3) (r : Rc4) : Nat := loS ps Pt3.x Pt3.y r.x0
def cHi (ps : List Pt3) (r : Rc4) : Nat := hiS ps Pt3.x Pt3.y r.x0 r.x1
def rLo (ps : List Pt3) (r : Rc4) : Nat := loS ps Pt3.y Pt3.x r.y0
def rHi (ps : List Pt3) (r : Rc4) : Nat := hiS ps Pt3.y Pt3.x r.y0 r.y1
theorem c_le {ps : List Pt3} (hV : V2 ps) (r : Rc4) : cLo ps r ≤ cHi ps r ∧ cHi ps r ≤ ps.length := ⟨loS_hiS _ _, hiS_le hV.x _ _⟩
theorem r_le {ps : List Pt3} (hV : V2 ps) (r : Rc4) : rLo ps r ≤ rHi ps r ∧ rHi ps r ≤ ps.length := ⟨loS_hiS _ _, hiS_le hV.y _ _⟩
theorem in_tab {ps : List Pt3} (hV : V2 ps) (r : Rc4) {i : Nat} (hi : i < ps.length) :
    inR r (ptAt ps i) = ((decide (cLo ps r ≤ plc ps Pt3.x Pt3.y i) && decide (plc ps Pt3.x Pt3.y i < cHi ps r)) && (decide (rLo ps r ≤ plc ps Pt3.y Pt3.x i) && decide (plc ps Pt3.y Pt3.x i < rHi ps r))) := by
  have h1 := span_iff hV.x hi r.x0 r.x1
  have h2 := span_iff hV.y hi r.y0 r.y1
  rw [Bool.eq_iff_iff]
  unfold inR cLo cHi rLo rHi
  simp only [Bool.and_eq_true, decide_eq_true_eq]
  constructor
  · rintro ⟨⟨⟨a, b⟩, c⟩, d⟩
    exact ⟨h1.2 ⟨a, b⟩, h2.2 ⟨c, d⟩⟩
  · rintro ⟨a, b⟩
    have a' := h1.1 a
    have b' := h2.1 b
    exact ⟨⟨⟨a'.1, a'.2⟩, b'.1⟩, b'.2⟩

theorem insR_len (ps : List Pt3) (r : Rc4) : (insR ps r).length = (List.range ps.length).countP fun i => inR r (ptAt ps i) := by
  unfold insR insTo
  rw [List.countP_eq_length_filter]

/-- What is counted below a row of the rectangle's columns. -/
theorem less_row {ps : List Pt3} {vs : List Lev} (hV : V2 ps) (hm : TabOf ps vs) (r : Rc4) {q : Nat} (h1 : rLo ps r ≤ q) (h2 : q ≤ rHi ps r) :
    lessI ps.length (fns vs) (q : Int) (cLo ps r) (cHi ps r) = lessI ps.length (fns vs) (rLo ps r : Nat) (cLo ps r) (cHi ps r) + (((List.range ps.length).countP fun i => inR r (ptAt ps i) && decide (plc ps Pt3.y Pt3.x i < q) : Nat) : Int) := by
  have hc := c_le hV r
  rw [less_tab hV hm hc.1 hc.2, less_tab hV hm hc.1 hc.2]
  rw [countP_part (p := fun i => (decide (cLo ps r ≤ plc ps Pt3.x Pt3.y i) && decide (plc ps Pt3.x Pt3.y i < cHi ps r)) && decide (plc ps Pt3.y Pt3.x i < q)) (q := fun i => (decide (cLo ps r ≤ plc ps Pt3.x Pt3.y i) && decide (plc ps Pt3.x Pt3.y i < cHi ps r)) && decide (plc ps Pt3.y Pt3.x i < rLo ps r)) (s := fun i => inR r (ptAt ps i) && decide (plc ps Pt3.y Pt3.x i < q))]
  · omega
  · intro i hi
    have hin := in_tab hV r (List.mem_range.1 hi)
    rw [hin]
    generalize (decide (cLo ps r ≤ plc ps Pt3.x Pt3.y i) && decide (plc ps Pt3.x Pt3.y i < cHi ps r)) = t
    cases t with
    | false => exact .inr (.inr ⟨rfl, rfl, rfl⟩)
    | true =>
      simp only [Bool.true_and, Bool.and_eq_true, Bool.and_eq_false_iff, decide_eq_true_eq, decide_eq_false_iff_not]
      omega
theorem tab_count {ps : List Pt3} {vs : List Lev} (hV : V2 ps) (hm : TabOf ps vs) (r : Rc4) :
    lessI ps.length (fns vs) (rHi ps r : Nat) (cLo ps r) (cHi ps r) = lessI ps.length (fns vs) (rLo ps r : Nat) (cLo ps r) (cHi ps r) + ((insR ps r).length : Nat) := by
  rw [less_row hV hm r (r_le hV r).1 (Nat.le_refl _), insR_len]
  congr 2
  refine List.countP_congr fun i hi => ?_
  rw [in_tab hV r (List.mem_range.1 hi)]
  simp only [Bool.and_eq_true, decide_eq_true_eq]
  omega

/-- What is reported. -/
theorem tab_points {ps : List Pt3} (hV : V2 ps) (r : Rc4) :
    (((ordL ps Pt3.x Pt3.y).drop (cLo ps r)).take (cHi ps r - cLo ps r)).filter (fun i => decide (rLo ps r ≤ plc ps Pt3.y Pt3.x i) && decide (plc ps Pt3.y Pt3.x i < rHi ps r)) = ssort (ltP ps ltX) (insR ps r) := by
  rw [part_filter (fun p i h => plc_at hV.x h) _ _ (c_le hV r).1, List.filter_filter]
  rw [show insR ps r = (List.range ps.length).filter fun i => inR r (ptAt ps i) from rfl, ← ord_filter ltX_swo lexX hV.x]
  refine List.filter_congr fun i hi => ?_
  rw [in_tab hV r ((ordL_mem hV.x).1 hi), Bool.and_comm]

/-- The kth. -/
theorem tab_kth {ps : List Pt3} {vs : List Lev} (hV : V2 ps) (hm : TabOf ps vs) (r : Rc4) {k b0 j : Nat} (h0 : lessI ps.length (fns vs) (rLo ps r : Nat) (cLo ps r) (cHi ps r) = (b0 : Int)) (hj : (ssort (ltP ps ltY) (insR ps r))[k]? = some j) :
    b0 + k < cHi ps r - cLo ps r ∧ kv ps.length (fns vs) (cLo ps r) (cHi ps r) (b0 + k) = plc ps Pt3.y Pt3.x j ∧ plc ps Pt3.y Pt3.x j < ps.length ∧ (ordL ps Pt3.y Pt3.x)[plc ps Pt3.y Pt3.x j]? = some j := by
  have hc := c_le hV r
  have hS : ssort (ltP ps ltY) (insR ps r) = (ordL ps Pt3.y Pt3.x).filter fun i => inR r (ptAt ps i) := (ord_filter ltY_swo lexY hV.y _).symm
  have hkl : k < (insR ps r).length := by
    have := (List.getElem?_eq_some_iff.1 hj).1
    rwa [ssort_length] at this
  have hjm : j < ps.length ∧ inR r (ptAt ps j) = true := by
    have := List.mem_of_getElem? hj
    rw [hS, List.mem_filter, ordL_mem hV.y] at this
    exact this
  have hsp := in_tab hV r hjm.1
  rw [hjm.2] at hsp
  have hsp := hsp.symm
  simp only [Bool.and_eq_true, decide_eq_true_eq] at hsp
  -- as many of the rectangle's points come before it
  have hcnt : ((List.range ps.length).countP fun i => inR r (ptAt ps i) && decide (plc ps Pt3.y Pt3.x i < plc ps Pt3.y Pt3.x j)) = k := by
    have hs : ((ssort (ltP ps ltY) (insR ps r)).map fun i => (plc ps Pt3.y Pt3.x i : Int)).Pairwise (· < ·) := by
      rw [hS, List.pairwise_map]
      refine List.Pairwise.imp_of_mem (fun {a b} ha hb hab => ?_) ((ordL_sorted hV.y).filter _)
      have ai := (ordL_mem hV.y).1 (List.mem_filter.1 ha).1
      exact Int.ofNat_lt.2 ((plc_iff ai).2 hab)
    have h1 := cnt_at hs (p := k) (x := (plc ps Pt3.y Pt3.x j : Int)) (by rw [List.getElem?_map, hj]; rfl)
    rw [← h1]
    unfold cntL
    rw [List.countP_map, hS, List.countP_filter, (ordL_perm hV.y).countP_eq]
    refine List.countP_congr fun i _ => ?_
    simp only [Function.comp, Bool.and_eq_true, decide_eq_true_eq, Int.ofNat_lt]
    exact And.comm
  have hnext : k < (List.range ps.length).countP fun i => inR r (ptAt ps i) && decide (plc ps Pt3.y Pt3.x i < plc ps Pt3.y Pt3.x j + 1) := by
    rw [countP_part (p := fun i => inR r (ptAt ps i) && decide (plc ps Pt3.y Pt3.x i < plc ps Pt3.y Pt3.x j + 1)) (q := fun i => inR r (ptAt ps i) && decide (plc ps Pt3.y Pt3.x i < plc ps Pt3.y Pt3.x j)) (s := fun i => inR r (ptAt ps i) && decide (plc ps Pt3.y Pt3.x i = plc ps Pt3.y Pt3.x j)), hcnt]
    · have : 0 < (List.range ps.length).countP fun i => inR r (ptAt ps i) && decide (plc ps Pt3.y Pt3.x i = plc ps Pt3.y Pt3.x j) := List.countP_pos_iff.2 ⟨j, List.mem_range.2 hjm.1, by simp [hjm.2]⟩
      omega
    · intro i _
      cases inR r (ptAt ps i) with
      | false => exact .inr (.inr ⟨rfl, rfl, rfl⟩)
      | true =>
        simp only [Bool.true_and, decide_eq_true_eq, decide_eq_false_iff_not]
        omega
  have hl1 := less_row hV hm r (q := plc ps Pt3.y Pt3.x j) hsp.2.1 (by omega)
  have hl2 := less_row hV hm r (q := plc ps Pt3.y Pt3.x j + 1) (by omega) (by omega)
  rw [h0, hcnt] at hl1
  rw [h0] at hl2
  have hlt : b0 + k < cHi ps r - cLo ps r := by
    have h1 := tab_count hV hm r
    have h2 : lessI ps.length (fns vs) (rHi ps r : Nat) (cLo ps r) (cHi ps r) ≤ ((cHi ps r : Nat) : Int) - (cLo ps r : Nat) := num_le _ _ _ _ _ hc.1
    rw [h0] at h1
    omega
  refine ⟨hlt, ?_, plc_lt hV.y hjm.1, ordL_at hV.y hjm.1⟩
  obtain ⟨s1, s2⟩ := kv_spec ps.length (fns vs) (cLo ps r) (cHi ps r) (b0 + k) hc.1 hlt
  refine kth_unique ps.length (fns vs) (cLo ps r) (cHi ps r) ((b0 + k : Nat) : Int) _ _ hc.1 s1 s2 ?_ ?_
  · rw [← lessI_nat, hl1]; omega
  · rw [← lessI_nat, hl2]; omega
end Go.Proofs.Ytpkclmfadlkbeaa
