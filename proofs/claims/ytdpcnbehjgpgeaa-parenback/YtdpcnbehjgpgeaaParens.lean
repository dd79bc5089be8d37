/-
  Plain mathematics of balanced parentheses, of no program: depths, pairs, what encloses a pair, the open ones at a place, the parents of all nodes. No condition but what each theorem names.
-/
import Derived.Test.YtdpcnbehjgpgeaaWords
namespace Go.Proofs.Ytdpcnbehjgpgeaa.Words
open Go Go.RowKit

/-- One up, or one down. -/
def stp (b : Bool) : Int := if b then 1 else -1
/-- How many are open ahead of place i (true: it opens). -/
def dp (l : List Bool) : Nat → Int
  | 0 => 0
  | i + 1 => dp l i + (match l[i]? with | some b => stp b | none => 0)

theorem dp_succ {l : List Bool} {i : Nat} {b : Bool} (h : l[i]? = some b) : dp l (i + 1) = dp l i + stp b := by rw [dp, h]
theorem dp_up {l : List Bool} {i : Nat} (h : l[i]? = some true) : dp l (i + 1) = dp l i + 1 := dp_succ h
theorem dp_down {l : List Bool} {i : Nat} (h : l[i]? = some false) : dp l (i + 1) = dp l i - 1 := dp_succ h
theorem dp_le (l : List Bool) (i : Nat) : dp l i ≤ i := by
  induction i with
  | zero => exact Int.le_refl _
  | succ i ih =>
    rw [dp]
    cases h : l[i]? with
    | none => simp; omega
    | some b => cases b <;> simp [stp] <;> omega
theorem dp_ge (l : List Bool) (i : Nat) : -(i : Int) ≤ dp l i := by
  induction i with
  | zero => exact Int.le_refl _
  | succ i ih =>
    rw [dp]
    cases h : l[i]? with
    | none => simp; omega
    | some b => cases b <;> simp [stp] <;> omega
theorem get_or {l : List Bool} {i : Nat} (h : i < l.length) : l[i]? = some true ∨ l[i]? = some false := by
  rw [List.getElem?_eq_getElem h]
  cases l[i] <;> simp
theorem get_lt {α : Type} {l : List α} {i : Nat} {b : α} (h : l[i]? = some b) : i < l.length := by
  rcases Nat.lt_or_ge i l.length with h1 | h1
  · exact h1
  · rw [List.getElem?_eq_none h1] at h; cases h

/-- Balanced. -/
structure Bal (l : List Bool) : Prop where
  nn : ∀ i, i ≤ l.length → 0 ≤ dp l i
  zero : dp l l.length = 0

theorem Bal.nil : Bal [] := ⟨(fun i h => by obtain rfl : i = 0 := (by simpa using h); exact Int.le_refl _), rfl⟩

/-- The pair that opens at i closes at j. -/
structure IsClose (l : List Bool) (i j : Nat) : Prop where
  lt : i < j
  opens : l[i]? = some true
  shuts : l[j]? = some false
  back : dp l (j + 1) = dp l i
  btw : ∀ k, i < k → k ≤ j → dp l i < dp l k

theorem IsClose.uniq {l : List Bool} {i j k : Nat} (h : IsClose l i j) (g : IsClose l i k) : j = k := by
  rcases Nat.lt_trichotomy j k with e | e | e
  · have := g.btw (j + 1) (by have := h.lt; omega) e
    rw [h.back] at this; omega
  · exact e
  · have := h.btw (k + 1) (by have := g.lt; omega) e
    rw [g.back] at this; omega
theorem IsClose.uniq2 {l : List Bool} {i j k : Nat} (h : IsClose l i k) (g : IsClose l j k) : i = j := by
  have h1 := h.back
  have g1 := g.back
  rcases Nat.lt_trichotomy i j with e | e | e
  · have := h.btw j e (by have := g.lt; omega); omega
  · exact e
  · have := g.btw i e (by have := h.lt; omega); omega

/-- What opens closes. -/
theorem Bal.close {l : List Bool} (h : Bal l) {i : Nat} (hi : l[i]? = some true) : ∃ j, IsClose l i j := by
  have hil := get_lt hi
  have hup := dp_up hi
  have aux : ∀ m, i + 1 + m ≤ l.length → (∃ j, IsClose l i j) ∨ ∀ k, i < k → k ≤ i + 1 + m → dp l i < dp l k := by
    intro m
    induction m with
    | zero => exact fun _ => .inr fun k h1 h2 => by obtain rfl : k = i + 1 := (by omega); omega
    | succ m ih =>
      intro hm
      rcases ih (by omega) with h1 | h1
      · exact .inl h1
      · have hd := h1 (i + 1 + m) (by omega) (Nat.le_refl _)
        rcases get_or (show i + 1 + m < l.length by omega) with hb | hb
        · refine .inr fun k h2 h3 => ?_
          by_cases e : k = i + 1 + (m + 1)
          · have := dp_up hb
            rw [e, show i + 1 + (m + 1) = i + 1 + m + 1 by omega]; omega
          · exact h1 k h2 (by omega)
        · have hdn := dp_down hb
          by_cases e : dp l (i + 1 + m + 1) = dp l i
          · exact .inl ⟨i + 1 + m, by omega, hi, hb, e, fun k h2 h3 => h1 k h2 h3⟩
          · refine .inr fun k h2 h3 => ?_
            by_cases e2 : k = i + 1 + (m + 1)
            · rw [e2, show i + 1 + (m + 1) = i + 1 + m + 1 by omega]; omega
            · exact h1 k h2 (by omega)
  rcases aux (l.length - i - 1) (by omega) with h1 | h1
  · exact h1
  · have h2 := h1 l.length (by omega) (by omega)
    have h3 := h.nn i (by omega)
    have h4 := h.zero
    omega

/-- What closes has opened. -/
theorem Bal.opened {l : List Bool} (h : Bal l) {j : Nat} (hj : l[j]? = some false) : ∃ i, IsClose l i j := by
  have hjl := get_lt hj
  have hdn := dp_down hj
  have hnn := h.nn (j + 1) (by omega)
  have aux : ∀ m, m ≤ j → (∃ i, IsClose l i j) ∨ ∀ k, j - m ≤ k → k ≤ j → dp l (j + 1) < dp l k := by
    intro m
    induction m with
    | zero => exact fun _ => .inr fun k h1 h2 => by obtain rfl : k = j := (by omega); omega
    | succ m ih =>
      intro hm
      rcases ih (by omega) with h1 | h1
      · exact .inl h1
      · have hd := h1 (j - m) (Nat.le_refl _) (by omega)
        have he : j - (m + 1) + 1 = j - m := by omega
        rcases get_or (show j - (m + 1) < l.length by omega) with hb | hb
        · have hu := dp_up hb
          rw [he] at hu
          by_cases e : dp l (j - (m + 1)) = dp l (j + 1)
          · exact .inl ⟨j - (m + 1), by omega, hb, hj, e.symm, fun k h2 h3 => by rw [e]; exact h1 k (by omega) h3⟩
          · refine .inr fun k h2 h3 => ?_
            by_cases e2 : k = j - (m + 1)
            · rw [e2]; omega
            · exact h1 k (by omega) h3
        · have hu := dp_down hb
          rw [he] at hu
          refine .inr fun k h2 h3 => ?_
          by_cases e2 : k = j - (m + 1)
          · rw [e2]; omega
          · exact h1 k (by omega) h3
  rcases aux j (Nat.le_refl _) with h1 | h1
  · exact h1
  · have h2 := h1 0 (by omega) (by omega)
    have h0 : dp l 0 = 0 := rfl
    rw [h0] at h2
    omega

/-- i and j belong together. -/
def Mate (l : List Bool) (i j : Nat) : Prop := IsClose l i j ∨ IsClose l j i
theorem Bal.mate {l : List Bool} (h : Bal l) {i : Nat} (hi : i < l.length) : ∃ j, Mate l i j := by
  rcases get_or hi with e | e
  · obtain ⟨j, hj⟩ := h.close e
    exact ⟨j, .inl hj⟩
  · obtain ⟨j, hj⟩ := h.opened e
    exact ⟨j, .inr hj⟩
theorem Mate.uniq {l : List Bool} {i j k : Nat} (h : Mate l i j) (g : Mate l i k) : j = k := by
  rcases h with h | h <;> rcases g with g | g
  · exact h.uniq g
  · have := h.opens; rw [g.shuts] at this; cases this
  · have := h.shuts; rw [g.opens] at this; cases this
  · exact h.uniq2 g
theorem Mate.symm {l : List Bool} {i j : Nat} (h : Mate l i j) : Mate l j i := by
  rcases h with h | h
  · exact .inr h
  · exact .inl h
theorem Mate.lt {l : List Bool} {i j : Nat} (h : Mate l i j) : j < l.length := by
  rcases h with h | h
  · exact get_lt h.shuts
  · exact get_lt h.opens

/-- k is the innermost place that is open at place a. -/
structure IsEnc (l : List Bool) (a k : Nat) : Prop where
  lt : k < a
  opens : l[k]? = some true
  one : dp l k + 1 = dp l a
  btw : ∀ m, k < m → m ≤ a → dp l a ≤ dp l m

theorem IsEnc.uniq {l : List Bool} {a k m : Nat} (h : IsEnc l a k) (g : IsEnc l a m) : k = m := by
  have h1 := h.one
  have g1 := g.one
  rcases Nat.lt_trichotomy k m with e | e | e
  · have := h.btw m e (Nat.le_of_lt g.lt); omega
  · exact e
  · have := g.btw k e (Nat.le_of_lt h.lt); omega
theorem Bal.enc {l : List Bool} {a : Nat} (ha : a ≤ l.length) (hd : 0 < dp l a) : ∃ k, IsEnc l a k := by
  have aux : ∀ m, m ≤ a → (∃ k, IsEnc l a k) ∨ ∀ k, a - m ≤ k → k ≤ a → dp l a ≤ dp l k := by
    intro m
    induction m with
    | zero => exact fun _ => .inr fun k h1 h2 => by obtain rfl : k = a := (by omega); exact Int.le_refl _
    | succ m ih =>
      intro hm
      rcases ih (by omega) with h1 | h1
      · exact .inl h1
      · have hdm := h1 (a - m) (Nat.le_refl _) (by omega)
        have he : a - (m + 1) + 1 = a - m := by omega
        rcases get_or (show a - (m + 1) < l.length by omega) with hb | hb
        · have hu := dp_up hb
          rw [he] at hu
          by_cases e : dp l (a - (m + 1)) + 1 = dp l a
          · exact .inl ⟨a - (m + 1), by omega, hb, e, fun k h2 h3 => h1 k (by omega) h3⟩
          · refine .inr fun k h2 h3 => ?_
            by_cases e2 : k = a - (m + 1)
            · rw [e2]; omega
            · exact h1 k (by omega) h3
        · have hu := dp_down hb
          rw [he] at hu
          refine .inr fun k h2 h3 => ?_
          by_cases e2 : k = a - (m + 1)
          · rw [e2]; omega
          · exact h1 k (by omega) h3
  rcases aux a (Nat.le_refl _) with h1 | h1
  · exact h1
  · have := h1 0 (by omega) (by omega)
    have h0 : dp l 0 = 0 := rfl
    rw [h0] at this
    omega
theorem IsEnc.none {l : List Bool} (h : Bal l) {a k : Nat} (ha : a ≤ l.length) (hd : dp l a = 0) (g : IsEnc l a k) : False := by
  have h1 := g.one
  have h2 := h.nn k (by have := g.lt; omega)
  omega

/-- A pair encloses a place exactly if it is open there; between the innermost one and the place all is closed. -/
theorem enc_far {l : List Bool} {a b k j : Nat} (hab : IsClose l a b) (he : IsEnc l a k) (hc : IsClose l k j) : b < j := by
  have h1 := he.one
  have hka := he.lt
  have hlab := hab.lt
  rcases Nat.lt_or_ge b j with e | e
  · exact e
  · have hb := hc.back
    have hkj := hc.lt
    by_cases e2 : j + 1 ≤ a
    · have := he.btw (j + 1) (by omega) e2; omega
    · by_cases e3 : j + 1 ≤ b
      · have := hab.btw (j + 1) (by omega) e3; omega
      · have hbb := hab.back
        obtain rfl : j = b := by omega
        omega
theorem enc_near {l : List Bool} {a b k j : Nat} (hab : IsClose l a b) (hka : k < a) (hc : IsClose l k j) (hbj : b < j) : dp l k < dp l a := hc.btw a hka (by have := hab.lt; omega)
theorem enc_skip {l : List Bool} {a b k m j : Nat} (hab : IsClose l a b) (he : IsEnc l a k) (hkm : k < m) (hma : m < a) (hc : IsClose l m j) : j ≤ b := by
  rcases Nat.lt_or_ge b j with e | e
  · have h1 := enc_near hab hma hc e
    have h2 := he.btw m hkm (by omega)
    omega
  · exact e

/-- The open ones ahead of place i. -/
def cntO (l : List Bool) : Nat → Nat
  | 0 => 0
  | i + 1 => cntO l i + (if l[i]? = some true then 1 else 0)
theorem cntO_up {l : List Bool} {i : Nat} (h : l[i]? = some true) : cntO l (i + 1) = cntO l i + 1 := by rw [cntO, if_pos h]
theorem cntO_no {l : List Bool} {i : Nat} (h : l[i]? ≠ some true) : cntO l (i + 1) = cntO l i := by rw [cntO, if_neg h]; rfl
theorem cntO_mono (l : List Bool) {i j : Nat} (h : i ≤ j) : cntO l i ≤ cntO l j := by
  induction j with
  | zero => obtain rfl : i = 0 := (by omega); exact Nat.le_refl _
  | succ j ih =>
    by_cases e : i = j + 1
    · rw [e]; exact Nat.le_refl _
    · have := ih (by omega)
      rw [cntO]
      omega
theorem cntO_le (l : List Bool) (i : Nat) : cntO l i ≤ i := by
  induction i with
  | zero => exact Nat.le_refl _
  | succ i ih =>
    rw [cntO]
    split <;> omega
/-- Opened and closed: the depth. -/
theorem cntO_dp {l : List Bool} (i : Nat) (h : i ≤ l.length) : dp l i = 2 * cntO l i - i := by
  induction i with
  | zero => rfl
  | succ i ih =>
    have := ih (by omega)
    rcases get_or (show i < l.length by omega) with e | e
    · rw [dp_up e, cntO_up e]; omega
    · rw [dp_down e, cntO_no (by rw [e]; simp)]; omega
/-- The places that open, in order. -/
def opensTo (l : List Bool) : Nat → List Nat
  | 0 => []
  | i + 1 => if l[i]? = some true then opensTo l i ++ [i] else opensTo l i
theorem opensTo_up {l : List Bool} {i : Nat} (h : l[i]? = some true) : opensTo l (i + 1) = opensTo l i ++ [i] := by rw [opensTo, if_pos h]
theorem opensTo_no {l : List Bool} {i : Nat} (h : l[i]? ≠ some true) : opensTo l (i + 1) = opensTo l i := by rw [opensTo, if_neg h]
theorem opensTo_length (l : List Bool) (i : Nat) : (opensTo l i).length = cntO l i := by
  induction i with
  | zero => rfl
  | succ i ih =>
    rw [opensTo, cntO]
    split
    · rw [List.length_append, ih]; rfl
    · rw [ih]; rfl
theorem opensTo_get (l : List Bool) (i : Nat) : ∀ n k, (opensTo l i)[n]? = some k ↔ k < i ∧ l[k]? = some true ∧ cntO l k = n := by
  induction i with
  | zero => intro n k; simp [opensTo]
  | succ i ih =>
    intro n k
    rw [opensTo]
    by_cases e : l[i]? = some true
    · rw [if_pos e, List.getElem?_append, opensTo_length]
      by_cases hn : n < cntO l i
      · rw [if_pos hn, ih]
        constructor
        · rintro ⟨h1, h2⟩; exact ⟨by omega, h2⟩
        · rintro ⟨h1, h2, h3⟩
          refine ⟨?_, h2, h3⟩
          by_cases e2 : k = i
          · subst e2; omega
          · omega
      · rw [if_neg hn]
        constructor
        · intro h
          have h0 : n - cntO l i = 0 := by
            rcases Nat.eq_zero_or_pos (n - cntO l i) with q | q
            · exact q
            · rw [List.getElem?_eq_none (by simp; omega)] at h; cases h
          rw [h0] at h
          obtain rfl : i = k := by simpa using h
          exact ⟨by omega, e, by omega⟩
        · rintro ⟨h1, h2, h3⟩
          by_cases e2 : k = i
          · subst e2
            rw [show n - cntO l k = 0 by omega]
            rfl
          · have := cntO_mono l (show k + 1 ≤ i by omega)
            rw [cntO_up h2] at this
            omega
    · rw [if_neg e, ih]
      constructor
      · rintro ⟨h1, h2⟩; exact ⟨by omega, h2⟩
      · rintro ⟨h1, h2, h3⟩
        refine ⟨?_, h2, h3⟩
        by_cases e2 : k = i
        · subst e2; exact absurd h2 e
        · omega
def opens (l : List Bool) : List Nat := opensTo l l.length
theorem opens_get (l : List Bool) (n k : Nat) : (opens l)[n]? = some k ↔ l[k]? = some true ∧ cntO l k = n := by
  unfold opens
  rw [opensTo_get]
  exact ⟨fun h => h.2, fun h => ⟨get_lt h.1, h⟩⟩
theorem opens_length (l : List Bool) : (opens l).length = cntO l l.length := opensTo_length l l.length

/-- The last place ahead of k with a depth below d. -/
def encN (l : List Bool) (d : Int) : Nat → Option Nat
  | 0 => none
  | k + 1 => if dp l k < d then some k else encN l d k
theorem encN_some {l : List Bool} {d : Int} : ∀ {k m : Nat}, encN l d k = some m → m < k ∧ dp l m < d ∧ ∀ j, m < j → j < k → d ≤ dp l j
  | 0, m, h => by cases h
  | k + 1, m, h => by
    rw [encN] at h
    split at h
    · obtain rfl := Option.some.inj h
      exact ⟨by omega, by assumption, fun j h1 h2 => by omega⟩
    · obtain ⟨h1, h2, h3⟩ := encN_some h
      refine ⟨by omega, h2, fun j g1 g2 => ?_⟩
      by_cases e : j = k
      · subst e; omega
      · exact h3 j g1 (by omega)
theorem encN_none {l : List Bool} {d : Int} : ∀ {k : Nat}, encN l d k = none → ∀ j, j < k → d ≤ dp l j
  | 0, _, j, hj => by omega
  | k + 1, h, j, hj => by
    rw [encN] at h
    split at h
    · cases h
    · by_cases e : j = k
      · subst e; omega
      · exact encN_none h j (by omega)
/-- The innermost one that is open at a place. -/
def enc (l : List Bool) (a : Nat) : Option Nat := encN l (dp l a) a
theorem enc_iff {l : List Bool} {a k : Nat} (ha : a ≤ l.length) : enc l a = some k ↔ IsEnc l a k := by
  have to : ∀ {k}, enc l a = some k → IsEnc l a k := fun {k} h => by
    obtain ⟨h1, h2, h3⟩ := encN_some h
    have hlow : dp l a ≤ dp l (k + 1) := by
      by_cases e : k + 1 = a
      · rw [e]; exact Int.le_refl _
      · exact h3 (k + 1) (by omega) (by omega)
    rcases get_or (show k < l.length by omega) with hb | hb
    · have hu := dp_up hb
      exact ⟨h1, hb, by omega, fun m g1 g2 => by
        by_cases e : m = a
        · rw [e]; exact Int.le_refl _
        · exact h3 m g1 (by omega)⟩
    · have hu := dp_down hb
      omega
  refine ⟨to, fun h => ?_⟩
  cases he : enc l a with
  | some m => rw [(to he).uniq h]
  | none =>
    have h1 := encN_none he k h.lt
    have h2 := h.one
    omega
theorem enc_none_iff {l : List Bool} (h : Bal l) {a : Nat} (ha : a ≤ l.length) : enc l a = none ↔ dp l a = 0 := by
  constructor
  · intro he
    have h1 := h.nn a ha
    rcases Int.lt_or_eq_of_le h1 with h2 | h2
    · obtain ⟨k, hk⟩ := Bal.enc ha h2
      rw [(enc_iff ha).2 hk] at he
      cases he
    · omega
  · intro hd
    cases he : enc l a with
    | none => rfl
    | some k => exact (IsEnc.none h ha hd ((enc_iff ha).1 he)).elim

/-- The parent of the node that opens at a place; -1: there is none. -/
def parP (l : List Bool) (a : Nat) : Int := match enc l a with | some k => (cntO l k : Nat) | none => -1
/-- The parents of all nodes. -/
def treeP (l : List Bool) : List Int := (opens l).map (parP l)
theorem treeP_length (l : List Bool) : (treeP l).length = cntO l l.length := by unfold treeP; rw [List.length_map, opens_length]
theorem treeP_get {l : List Bool} {n k : Nat} (h : (opens l)[n]? = some k) : (treeP l)[n]? = some (parP l k) := by unfold treeP; rw [List.getElem?_map, h]; rfl

/-- The places that are open ahead of place i, the innermost first. -/
def pst (l : List Bool) : Nat → List Nat
  | 0 => []
  | i + 1 => if l[i]? = some true then i :: pst l i else (pst l i).tail
theorem pst_up {l : List Bool} {i : Nat} (h : l[i]? = some true) : pst l (i + 1) = i :: pst l i := by rw [pst, if_pos h]
theorem pst_down {l : List Bool} {i : Nat} (h : l[i]? = some false) : pst l (i + 1) = (pst l i).tail := by rw [pst, if_neg (by rw [h]; simp)]
theorem pst_get {l : List Bool} (h : Bal l) : ∀ i, i ≤ l.length → ((pst l i).length : Int) = dp l i ∧ ∀ (j k : Nat), (pst l i)[j]? = some k → k < i ∧ l[k]? = some true ∧ dp l k + 1 + j = dp l i ∧ ∀ m, k < m → m ≤ i → dp l k < dp l m
  | 0, _ => ⟨rfl, fun j k hj => by simp [pst] at hj⟩
  | i + 1, hi => by
    obtain ⟨h1, h2⟩ := pst_get h i (by omega)
    have hnn := h.nn (i + 1) hi
    rcases get_or (show i < l.length by omega) with e | e
    · have hu := dp_up e
      rw [pst_up e]
      refine ⟨by rw [List.length_cons]; omega, fun j k hj => ?_⟩
      cases j with
      | zero =>
        obtain rfl : i = k := by simpa using hj
        exact ⟨by omega, e, by omega, fun m g1 g2 => by obtain rfl : m = i + 1 := (by omega); omega⟩
      | succ j =>
        obtain ⟨g1, g2, g3, g4⟩ := h2 j k (by simpa using hj)
        refine ⟨by omega, g2, by omega, fun m q1 q2 => ?_⟩
        by_cases e2 : m = i + 1
        · have := g4 i g1 (Nat.le_refl _); rw [e2]; omega
        · exact g4 m q1 (by omega)
    · have hu := dp_down e
      rw [pst_down e]
      refine ⟨by rw [List.length_tail]; omega, fun j k hj => ?_⟩
      obtain ⟨g1, g2, g3, g4⟩ := h2 (j + 1) k (by rw [List.getElem?_tail] at hj; exact hj)
      refine ⟨by omega, g2, by omega, fun m q1 q2 => ?_⟩
      by_cases e2 : m = i + 1
      · rw [e2]; omega
      · exact g4 m q1 (by omega)
/-- The innermost one is the first. -/
theorem enc_pst {l : List Bool} (h : Bal l) {i : Nat} (hi : i ≤ l.length) : enc l i = (pst l i).head? := by
  obtain ⟨h1, h2⟩ := pst_get h i hi
  cases hp : pst l i with
  | nil =>
    rw [hp] at h1
    rw [(enc_none_iff h hi).2 (by simpa using h1.symm)]
    rfl
  | cons k r =>
    obtain ⟨g1, g2, g3, g4⟩ := h2 0 k (by rw [hp]; rfl)
    exact (enc_iff hi).2 ⟨g1, g2, by omega, fun m q1 q2 => by have := g4 m q1 q2; omega⟩
/-- What closes at i is the innermost one that is open there. -/
theorem close_pst {l : List Bool} (h : Bal l) {i k : Nat} (he : l[i]? = some false) (hk : (pst l i).head? = some k) : IsClose l k i := by
  obtain ⟨h1, h2⟩ := pst_get h i (Nat.le_of_lt (get_lt he))
  cases hp : pst l i with
  | nil => rw [hp] at hk; cases hk
  | cons k' r =>
    rw [hp] at hk
    obtain rfl : k' = k := by simpa using hk
    obtain ⟨g1, g2, g3, g4⟩ := h2 0 k' (by rw [hp]; rfl)
    have hd := dp_down he
    exact ⟨g1, g2, he, by omega, g4⟩
end Go.Proofs.Ytdpcnbehjgpgeaa.Words
