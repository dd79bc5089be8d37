/-
  Plain mathematics of the Cartesian tree built from left to right, of no program: the path of the places with no greater number behind them, and how the parents change where a number is added. No condition but what each theorem names.
-/
import Derived.Test.YtfijlcaiklhpiaaCarts
namespace Go.Proofs.Ytfijlcaiklhpiaa.Words
open Go Go.RowKit

/-- S: the places before i, in order, with no greater number behind them. -/
structure StackOf (f : Nat → Int) (i : Nat) (S : List Nat) : Prop where
  up : ∀ a b x y : Nat, a < b → S[a]? = some x → S[b]? = some y → x < y
  mem : ∀ j : Nat, j ∈ S ↔ j < i ∧ NoR f i j

theorem StackOf.nil (f : Nat → Int) : StackOf f 0 [] := ⟨fun a b x y _ h => by simp at h, fun j => by simp⟩

theorem StackOf.get {f : Nat → Int} {i : Nat} {S : List Nat} (h : StackOf f i S) {d x : Nat} (hx : S[d]? = some x) : x < i ∧ NoR f i x := (h.mem x).1 (List.mem_of_getElem? hx)

/-- Which of two stands first is told by their places. -/
theorem StackOf.lt_of {f : Nat → Int} {i : Nat} {S : List Nat} (h : StackOf f i S) {a b x y : Nat} (hx : S[a]? = some x) (hy : S[b]? = some y) (hxy : x < y) : a < b := by
  rcases Nat.lt_trichotomy a b with e | e | e
  · exact e
  · subst e
    rw [hx] at hy
    obtain rfl := Option.some.inj hy
    omega
  · have := h.up b a y x e hy hx
    omega

/-- The numbers do not rise along it. -/
theorem StackOf.down {f : Nat → Int} {i : Nat} {S : List Nat} (h : StackOf f i S) {a b x y : Nat} (hab : a ≤ b) (hx : S[a]? = some x) (hy : S[b]? = some y) : f y ≤ f x := by
  by_cases e : a = b
  · subst e
    rw [hx] at hy
    obtain rfl := Option.some.inj hy
    exact Int.le_refl _
  · exact (h.get hx).2 y (h.up a b x y (by omega) hx hy) (h.get hy).1

theorem StackOf.ge {f : Nat → Int} {i : Nat} {S : List Nat} (h : StackOf f i S) : ∀ (a x : Nat), S[a]? = some x → a ≤ x
  | 0, x, _ => Nat.zero_le _
  | a + 1, x, hx => by
    have hlen : a < S.length := by
      rcases Nat.lt_or_ge (a + 1) S.length with q | q
      · omega
      · rw [List.getElem?_eq_none q] at hx; cases hx
    have hp := List.getElem?_eq_getElem hlen
    have h1 := h.ge a _ hp
    have h2 := h.up a (a + 1) _ _ (by omega) hp hx
    omega
theorem StackOf.short {f : Nat → Int} {i : Nat} {S : List Nat} (h : StackOf f i S) : S.length ≤ i := by
  rcases Nat.eq_zero_or_pos S.length with e | e
  · omega
  · have hp := List.getElem?_eq_getElem (show S.length - 1 < S.length by omega)
    have h1 := h.ge _ _ hp
    have h2 := (h.get hp).1
    omega

/-- Above each place there is one on the path. -/
theorem StackOf.above {f : Nat → Int} {i : Nat} {S : List Nat} (h : StackOf f i S) : ∀ (m k : Nat), k < i → i - k ≤ m → ∃ (d j : Nat), S[d]? = some j ∧ k ≤ j ∧ f k ≤ f j
  | 0, k, hk, hm => by omega
  | m + 1, k, hk, hm => by
    rcases r_or f i k with hr | ⟨r, hr⟩
    · obtain ⟨d, hd⟩ := List.getElem?_of_mem ((h.mem k).2 ⟨hk, hr⟩)
      exact ⟨d, k, hd, Nat.le_refl _, Int.le_refl _⟩
    · obtain ⟨d, j, h1, h2, h3⟩ := h.above m r hr.hi (by have := hr.lo; omega)
      exact ⟨d, j, h1, by have := hr.lo; omega, by have := hr.gt; omega⟩

/-- d: how many on the path are not below the number at i. -/
structure CutAt (f : Nat → Int) (i : Nat) (S : List Nat) (d : Nat) : Prop where
  le : d ≤ S.length
  ge : ∀ e x : Nat, e < d → S[e]? = some x → f i ≤ f x
  lt : ∀ e x : Nat, d ≤ e → S[e]? = some x → f x < f i

theorem cut_ex {f : Nat → Int} {i : Nat} {S : List Nat} (h : StackOf f i S) : ∃ d, CutAt f i S d := by
  have aux : ∀ m, m ≤ S.length → (∃ d, d ≤ m ∧ (∀ e x, e < d → S[e]? = some x → f i ≤ f x) ∧ (∀ e x, d ≤ e → e < m → S[e]? = some x → f x < f i)) := by
    intro m
    induction m with
    | zero => exact fun _ => ⟨0, Nat.le_refl _, (fun e x h1 _ => by omega), fun e x h1 h2 _ => by omega⟩
    | succ m ih =>
      intro hm
      obtain ⟨d, h1, h2, h3⟩ := ih (by omega)
      have hx := List.getElem?_eq_getElem (show m < S.length by omega)
      by_cases hc : f S[m] < f i
      · refine ⟨d, by omega, h2, fun e x g1 g2 g3 => ?_⟩
        by_cases e1 : e = m
        · subst e1
          rw [hx] at g3
          obtain rfl := Option.some.inj g3
          exact hc
        · exact h3 e x g1 (by omega) g3
      · refine ⟨m + 1, Nat.le_refl _, fun e x g1 g3 => ?_, fun e x g1 g2 _ => by omega⟩
        have := h.down (show e ≤ m by omega) g3 hx
        omega
  obtain ⟨d, h1, h2, h3⟩ := aux S.length (Nat.le_refl _)
  refine ⟨d, h1, h2, fun e x g1 g3 => h3 e x g1 ?_ g3⟩
  rcases Nat.lt_or_ge e S.length with q | q
  · exact q
  · rw [List.getElem?_eq_none q] at g3; cases g3

theorem noR_more {f : Nat → Int} {i j : Nat} (h : NoR f i j) (hi : f i ≤ f j) : NoR f (i + 1) j := fun k h1 h2 => by
  by_cases e : k = i
  · rw [e]; exact hi
  · exact h k h1 (by omega)
theorem isR_more {f : Nat → Int} {i j r : Nat} (h : IsR f i j r) : IsR f (i + 1) j r := ⟨h.lo, by have := h.hi; omega, h.gt, h.btw⟩
theorem isR_new {f : Nat → Int} {i j : Nat} (hj : j < i) (h : NoR f i j) (hi : f j < f i) : IsR f (i + 1) j i := ⟨hj, Nat.lt_succ_self _, hi, fun k h1 h2 => h k h1 h2⟩

/-- The place on the left of one on the path that is not below it lies on the path. -/
theorem StackOf.left {f : Nat → Int} {i : Nat} {S : List Nat} (h : StackOf f i S) {d j l : Nat} (hj : S[d]? = some j) (hl : IsL f 0 j l) : ∃ e, e < d ∧ S[e]? = some l := by
  have hg := h.get hj
  have hmem : l ∈ S := (h.mem l).2 ⟨by have := hl.hi; omega, fun k h1 h2 => by
    have hge := hl.ge
    rcases Nat.lt_trichotomy k j with e | e | e
    · have := hl.btw k h1 e; omega
    · rw [e]; exact hge
    · have := hg.2 k e h2; omega⟩
  obtain ⟨e, he⟩ := List.getElem?_of_mem hmem
  exact ⟨e, h.lt_of he hj hl.hi, he⟩

/-- The parent of the new place. -/
theorem par_new {f : Nat → Int} {i : Nat} {S : List Nat} {d : Nat} (h : StackOf f i S) (hd : CutAt f i S d) : parOf f (i + 1) i = if d = 0 then -1 else ((S.getD (d - 1) 0 : Nat) : Int) := by
  have hno : NoR f (i + 1) i := fun k h1 h2 => by omega
  by_cases h0 : d = 0
  · rw [if_pos h0]
    refine parOf_of (Nat.lt_succ_self _) (.inl ⟨fun k _ hk => ?_, hno, rfl⟩)
    obtain ⟨e, j, h1, h2, h3⟩ := h.above i k hk (by omega)
    have := hd.lt e j (by omega) h1
    omega
  · rw [if_neg h0]
    have hlen := hd.le
    have hx : S[d - 1]? = some (S.getD (d - 1) 0) := by rw [List.getD, List.getElem?_eq_getElem (show d - 1 < S.length by omega)]; rfl
    generalize S.getD (d - 1) 0 = l at *
    refine parOf_of (Nat.lt_succ_self _) (.inr (.inl ⟨l, ⟨Nat.zero_le _, (h.get hx).1, hd.ge _ l (by omega) hx, fun k h1 h2 => ?_⟩, hno, rfl⟩))
    obtain ⟨e, j, g1, g2, g3⟩ := h.above i k h2 (by omega)
    have := h.lt_of hx g1 (by omega)
    have := hd.lt e j (by omega) g1
    omega

/-- The parents of the elder places. -/
theorem par_old {f : Nat → Int} {i : Nat} {S : List Nat} {d : Nat} (h : StackOf f i S) (hd : CutAt f i S d) {j : Nat} (hj : j < i) : parOf f (i + 1) j = if S[d]? = some j then (i : Int) else parOf f i j := by
  have hold := parOf_is f hj
  have hji : j < i + 1 := by omega
  generalize parOf f i j = x at *
  by_cases hs : S[d]? = some j
  · rw [if_pos hs]
    have hnr := (h.get hs).2
    have hlt := hd.lt d j (Nat.le_refl _) hs
    have hnew := isR_new hj hnr hlt
    rcases l_or f 0 j with hl | ⟨l, hl⟩
    · exact parOf_of hji (.inr (.inr (.inl ⟨i, hl, hnew, rfl⟩)))
    · obtain ⟨e, he, hel⟩ := h.left hs hl
      have hge := hd.ge e l he hel
      exact parOf_of hji (.inr (.inr (.inr ⟨l, i, hl, hnew, by rw [if_neg (by omega)]⟩)))
  · rw [if_neg hs]
    apply parOf_of hji
    rcases r_or f i j with hr | ⟨r, hr⟩
    · -- on the path
      obtain ⟨e, he⟩ := List.getElem?_of_mem ((h.mem j).2 ⟨hj, hr⟩)
      rcases Nat.lt_trichotomy e d with g | g | g
      · have hr2 := noR_more hr (hd.ge e j g he)
        rcases hold with ⟨k1, k2, rfl⟩ | ⟨l, k1, k2, rfl⟩ | ⟨r, k1, k2, rfl⟩ | ⟨l, r, k1, k2, rfl⟩
        · exact .inl ⟨k1, hr2, rfl⟩
        · exact .inr (.inl ⟨l, k1, hr2, rfl⟩)
        · exact (k2.none hr).elim
        · exact (k2.none hr).elim
      · subst g
        exact absurd he hs
      · have hnew := isR_new hj hr (hd.lt e j (by omega) he)
        have hlen : e - 1 < S.length := by
          rcases Nat.lt_or_ge e S.length with q | q
          · omega
          · rw [List.getElem?_eq_none q] at he; cases he
        have hp := List.getElem?_eq_getElem hlen
        have hpl := h.up (e - 1) e _ _ (by omega) hp he
        have hpd := h.down (show e - 1 ≤ e by omega) hp he
        rcases hold with ⟨k1, k2, rfl⟩ | ⟨l, k1, k2, rfl⟩ | ⟨r, k1, k2, rfl⟩ | ⟨l, r, k1, k2, rfl⟩
        · have := k1 _ (Nat.zero_le _) hpl
          omega
        · obtain ⟨a, ha, hal⟩ := h.left he k1
          have hda : d ≤ a := by
            rcases Nat.lt_or_ge l S[e - 1] with q | q
            · have := k1.btw _ q hpl
              omega
            · have : e - 1 ≤ a := by
                rcases Nat.lt_or_ge a (e - 1) with q2 | q2
                · have := h.up a (e - 1) _ _ q2 hal hp
                  omega
                · exact q2
              omega
          have hlt := hd.lt a l hda hal
          exact .inr (.inr (.inr ⟨l, i, k1, hnew, by rw [if_pos hlt]⟩))
        · exact (k2.none hr).elim
        · exact (k2.none hr).elim
    · have hr2 := isR_more hr
      rcases hold with ⟨k1, k2, rfl⟩ | ⟨l, k1, k2, rfl⟩ | ⟨r2, k1, k2, rfl⟩ | ⟨l, r2, k1, k2, rfl⟩
      · exact (hr.none k2).elim
      · exact (hr.none k2).elim
      · exact .inr (.inr (.inl ⟨r2, k1, isR_more k2, rfl⟩))
      · exact .inr (.inr (.inr ⟨l, r2, k1, isR_more k2, rfl⟩))

/-- The path with the new place. -/
theorem StackOf.push {f : Nat → Int} {i : Nat} {S : List Nat} {d : Nat} (h : StackOf f i S) (hd : CutAt f i S d) : StackOf f (i + 1) (S.take d ++ [i]) := by
  have hlen : (S.take d).length = d := by rw [List.length_take]; have := hd.le; omega
  have old : ∀ a x, (S.take d)[a]? = some x → a < d ∧ S[a]? = some x := fun a x hx => by
    rw [List.getElem?_take] at hx
    split at hx
    · exact ⟨by assumption, hx⟩
    · cases hx
  refine ⟨fun a b x y hab hx hy => ?_, fun j => ?_⟩
  · rw [List.getElem?_append] at hx hy
    rw [hlen] at hx hy
    by_cases hb : b < d
    · rw [if_pos hb] at hy
      rw [if_pos (by omega)] at hx
      exact h.up a b x y hab (old _ _ hx).2 (old _ _ hy).2
    · rw [if_neg hb] at hy
      have hbd : b - d = 0 := by
        rcases Nat.eq_zero_or_pos (b - d) with e | e
        · exact e
        · rw [List.getElem?_eq_none (by simp; omega)] at hy; cases hy
      rw [hbd] at hy
      obtain rfl : i = y := by simpa using hy
      rw [if_pos (by omega)] at hx
      exact (h.get (old _ _ hx).2).1
  · rw [List.mem_append]
    constructor
    · rintro (hj | hj)
      · obtain ⟨a, ha⟩ := List.getElem?_of_mem hj
        obtain ⟨h1, h2⟩ := old a j ha
        have hg := h.get h2
        exact ⟨by omega, noR_more hg.2 (hd.ge a j h1 h2)⟩
      · obtain rfl : j = i := by simpa using hj
        exact ⟨Nat.lt_succ_self _, fun k h1 h2 => by omega⟩
    · rintro ⟨h1, h2⟩
      by_cases e : j = i
      · exact .inr (by simp [e])
      · left
        have hnr : NoR f i j := fun k g1 g2 => h2 k g1 (by omega)
        obtain ⟨a, ha⟩ := List.getElem?_of_mem ((h.mem j).2 ⟨by omega, hnr⟩)
        have had : a < d := by
          rcases Nat.lt_or_ge a d with q | q
          · exact q
          · have g1 := hd.lt a j q ha
            have g2 := h2 i (by omega) (Nat.lt_succ_self _)
            omega
        exact List.mem_of_getElem? (show (S.take d)[a]? = some j by rw [List.getElem?_take, if_pos had]; exact ha)

/-- The parents of n places of which i have been added. -/
def parsTo (f : Nat → Int) (n i : Nat) : List Int := (List.range n).map fun j => if j < i then parOf f i j else 0
theorem parsTo_length (f : Nat → Int) (n i : Nat) : (parsTo f n i).length = n := by simp [parsTo]
theorem parsTo_zero (f : Nat → Int) (n : Nat) : parsTo f n 0 = List.replicate n 0 := by
  apply List.ext_getElem?
  intro j
  unfold parsTo
  by_cases hj : j < n
  · rw [List.getElem?_map, List.getElem?_range hj, List.getElem?_replicate, if_pos hj]
    simp
  · rw [List.getElem?_eq_none (by simp; omega), List.getElem?_eq_none (by simp; omega)]
theorem parsTo_get (f : Nat → Int) (n i j : Nat) (hj : j < n) : (parsTo f n i)[j]? = some (if j < i then parOf f i j else 0) := by
  unfold parsTo
  rw [List.getElem?_map, List.getElem?_range hj]
  rfl
/-- All of them. -/
def pars (f : Nat → Int) (n : Nat) : List Int := (List.range n).map fun j => parOf f n j
theorem parsTo_all (f : Nat → Int) (n : Nat) : parsTo f n n = pars f n := by
  unfold parsTo pars
  exact List.map_congr_left fun j hj => by rw [if_pos (List.mem_range.1 hj)]
theorem pars_length (f : Nat → Int) (n : Nat) : (pars f n).length = n := by simp [pars]
theorem pars_get (f : Nat → Int) (n j : Nat) (hj : j < n) : (pars f n)[j]? = some (parOf f n j) := by
  unfold pars
  rw [List.getElem?_map, List.getElem?_range hj]
  rfl

theorem pars_none {f : Nat → Int} {i n : Nat} {S : List Nat} {d : Nat} (h : StackOf f i S) (hd : CutAt f i S d) (hs : S[d]? = none) : parsTo f n (i + 1) = (parsTo f n i).set i (parOf f (i + 1) i) := by
  apply List.ext_getElem?
  intro j
  by_cases hj : j < n
  · rw [parsTo_get _ _ _ _ hj]
    by_cases e : i = j
    · subst e
      rw [List.getElem?_set_self (by rw [parsTo_length]; exact hj), if_pos (Nat.lt_succ_self _)]
    · rw [List.getElem?_set_ne e, parsTo_get _ _ _ _ hj]
      by_cases hji : j < i
      · rw [if_pos (by omega), if_pos hji, par_old h hd hji, hs, if_neg (by simp)]
      · rw [if_neg (by omega), if_neg hji]
  · rw [List.getElem?_eq_none (by rw [parsTo_length]; omega), List.getElem?_eq_none (by rw [List.length_set, parsTo_length]; omega)]
theorem pars_some {f : Nat → Int} {i n : Nat} {S : List Nat} {d s : Nat} (h : StackOf f i S) (hd : CutAt f i S d) (hs : S[d]? = some s) : parsTo f n (i + 1) = ((parsTo f n i).set s i).set i (parOf f (i + 1) i) := by
  have hsi := (h.get hs).1
  apply List.ext_getElem?
  intro j
  by_cases hj : j < n
  · rw [parsTo_get _ _ _ _ hj]
    by_cases e : i = j
    · subst e
      rw [List.getElem?_set_self (by rw [List.length_set, parsTo_length]; exact hj), if_pos (Nat.lt_succ_self _)]
    · rw [List.getElem?_set_ne e]
      by_cases e2 : s = j
      · subst e2
        rw [List.getElem?_set_self (by rw [parsTo_length]; exact hj), if_pos (by omega), par_old h hd hsi, if_pos hs]
      · rw [List.getElem?_set_ne e2, parsTo_get _ _ _ _ hj]
        by_cases hji : j < i
        · rw [if_pos (by omega), if_pos hji, par_old h hd hji, if_neg (by rw [hs]; intro e3; exact e2 (Option.some.inj e3))]
        · rw [if_neg (by omega), if_neg hji]
  · rw [List.getElem?_eq_none (by rw [parsTo_length]; omega), List.getElem?_eq_none (by rw [List.length_set, List.length_set, parsTo_length]; omega)]
end Go.Proofs.Ytfijlcaiklhpiaa.Words
