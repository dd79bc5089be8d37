/-
  Plain mathematics of segment trees, of no program: what a change makes of a number ('app'), one change behind another ('thenS', 'thenB'), least and sum of a list, the part of a list from one place to another ("prt"), a change of that part ('mapR'). No condition but what each theorem names.
-/
import Derived.Test.YtefgfkicacbmeaaWords
namespace Go.Proofs.Ytefgfkicacbmeaa.Words

/-- What a change makes of a number: it becomes 0 first if s, and is then increased by b. -/
def app (s : Bool) (b z : Int) : Int := (if s then 0 else z) + b
theorem app_id (z : Int) : app false 0 z = z := by unfold app; simp
theorem app_set (b z : Int) : app true b z = b := by unfold app; simp
theorem app_add (b z : Int) : app false b z = z + b := by unfold app; simp
theorem map_id (l : List Int) : l.map (app false 0) = l := by
  induction l with
  | nil => rfl
  | cons a l ih => rw [List.map_cons, ih, app_id]

/-- One change, and another behind it. -/
def thenS (s s2 : Bool) : Bool := if s2 then s2 else s
def thenB (b : Int) (s2 : Bool) (b2 : Int) : Int := if s2 then b2 else b + b2
theorem app_then (s s2 : Bool) (b b2 z : Int) : app s2 b2 (app s b z) = app (thenS s s2) (thenB b s2 b2) z := by
  unfold app thenS thenB
  cases s2 <;> cases s <;> simp <;> omega

/-- Within the limit that the tree's numbers keep. -/
def Bd (z : Int) : Prop := -1099511627776 ≤ z ∧ z ≤ 1099511627776
def Bds (l : List Int) : Prop := ∀ z ∈ l, Bd z
theorem Bds.left {l r : List Int} (h : Bds (l ++ r)) : Bds l := fun z hz => h z (List.mem_append_left _ hz)
theorem Bds.right {l r : List Int} (h : Bds (l ++ r)) : Bds r := fun z hz => h z (List.mem_append_right _ hz)
theorem Bds.join {l r : List Int} (h : Bds l) (k : Bds r) : Bds (l ++ r) := fun z hz => by
  rcases List.mem_append.1 hz with e | e
  · exact h z e
  · exact k z e

/-- The least of a list; 0 where there is none. -/
def mn : List Int → Int
  | [] => 0
  | [a] => a
  | a :: b :: l => min a (mn (b :: l))
theorem mn_one (a : Int) : mn [a] = a := rfl
theorem mn_cons (a : Int) {l : List Int} (h : l ≠ []) : mn (a :: l) = min a (mn l) := by
  cases l with
  | nil => exact absurd rfl h
  | cons b l => rfl
theorem mn_append {l r : List Int} (h : l ≠ []) (k : r ≠ []) : mn (l ++ r) = min (mn l) (mn r) := by
  induction l with
  | nil => exact absurd rfl h
  | cons a l ih =>
    by_cases e : l = []
    · subst e
      rw [List.cons_append, List.nil_append, mn_cons a k, mn_one]
    · rw [List.cons_append, mn_cons a (by simp [e]), ih e, mn_cons a e]
      omega
theorem mn_app (s : Bool) (b : Int) {l : List Int} (h : l ≠ []) : mn (l.map (app s b)) = (if s then 0 else mn l) + b := by
  induction l with
  | nil => exact absurd rfl h
  | cons a l ih =>
    by_cases e : l = []
    · subst e; rfl
    · rw [List.map_cons, mn_cons _ (by simp [e]), ih e, mn_cons a e]
      unfold app
      cases s <;> simp <;> omega
theorem mn_bd {l : List Int} (h : Bds l) : Bd (mn l) := by
  induction l with
  | nil => unfold Bd mn; omega
  | cons a l ih =>
    have ha := h a (by simp)
    by_cases e : l = []
    · subst e; exact ha
    · have := ih fun z hz => h z (by simp [hz])
      rw [mn_cons a e]
      unfold Bd at *
      omega
theorem mn_le {l : List Int} {z : Int} (h : z ∈ l) : mn l ≤ z := by
  induction l with
  | nil => cases h
  | cons a l ih =>
    by_cases e : l = []
    · subst e
      obtain rfl : z = a := by simpa using h
      exact Int.le_refl _
    · rw [mn_cons a e]
      rcases List.mem_cons.1 h with e2 | e2
      · omega
      · have := ih e2; omega

/-- The sum of a list. -/
def sm : List Int → Int
  | [] => 0
  | a :: l => a + sm l
theorem sm_append (l r : List Int) : sm (l ++ r) = sm l + sm r := by
  induction l with
  | nil => simp [sm]
  | cons a l ih => show a + sm (l ++ r) = (a + sm l) + sm r; rw [ih]; omega
theorem sm_app (s : Bool) (b : Int) (l : List Int) : sm (l.map (app s b)) = (if s then 0 else sm l) + b * l.length := by
  induction l with
  | nil => cases s <;> simp [sm]
  | cons a l ih =>
    rw [List.map_cons]
    unfold sm
    rw [ih, List.length_cons]
    have e : b * ((l.length + 1 : Nat) : Int) = b * l.length + b := by rw [Int.natCast_add, Int.mul_add]; simp
    rw [e]
    unfold app
    cases s <;> simp <;> omega
theorem sm_bd {l : List Int} (h : Bds l) : -1099511627776 * (l.length : Int) ≤ sm l ∧ sm l ≤ 1099511627776 * (l.length : Int) := by
  induction l with
  | nil => simp [sm]
  | cons a l ih =>
    have ha := h a (by simp)
    have := ih fun z hz => h z (by simp [hz])
    unfold sm
    unfold Bd at ha
    rw [List.length_cons]
    omega

/-- What a change's number keeps to, where a number lies within the limit ahead of it and behind it. -/
theorem by_bd {s : Bool} {b z : Int} (h : Bd z) (k : Bd (app s b z)) : -2199023255552 ≤ b ∧ b ≤ 2199023255552 := by
  unfold Bd at *
  unfold app at k
  cases s <;> simp at k <;> omega

/-- The numbers of a list from place lo to place hi. -/
def prt : List Int → Int → Int → List Int
  | [], _, _ => []
  | z :: l, lo, hi => (if lo ≤ 0 ∧ 0 ≤ hi then [z] else []) ++ prt l (lo - 1) (hi - 1)
/-- A change of them. -/
def mapR (f : Int → Int) : List Int → Int → Int → List Int
  | [], _, _ => []
  | z :: l, lo, hi => (if lo ≤ 0 ∧ 0 ≤ hi then f z else z) :: mapR f l (lo - 1) (hi - 1)
theorem mapR_length (f : Int → Int) : ∀ (l : List Int) (lo hi : Int), (mapR f l lo hi).length = l.length
  | [], _, _ => rfl
  | z :: l, lo, hi => by unfold mapR; rw [List.length_cons, List.length_cons, mapR_length f l]
theorem prt_append (l r : List Int) : ∀ lo hi : Int, prt (l ++ r) lo hi = prt l lo hi ++ prt r (lo - l.length) (hi - l.length) := by
  induction l with
  | nil => intro lo hi; simp [prt]
  | cons a l ih =>
    intro lo hi
    rw [List.cons_append]
    unfold prt
    rw [ih, List.append_assoc, List.length_cons, show lo - 1 - (l.length : Int) = lo - ((l.length + 1 : Nat) : Int) by omega, show hi - 1 - (l.length : Int) = hi - ((l.length + 1 : Nat) : Int) by omega]
    congr 2
    cases r <;> simp only [prt]
theorem mapR_append (f : Int → Int) (l r : List Int) : ∀ lo hi : Int, mapR f (l ++ r) lo hi = mapR f l lo hi ++ mapR f r (lo - l.length) (hi - l.length) := by
  induction l with
  | nil => intro lo hi; simp [mapR]
  | cons a l ih =>
    intro lo hi
    show (if lo ≤ 0 ∧ 0 ≤ hi then f a else a) :: mapR f (l ++ r) (lo - 1) (hi - 1) = ((if lo ≤ 0 ∧ 0 ≤ hi then f a else a) :: mapR f l (lo - 1) (hi - 1)) ++ _
    rw [ih, List.cons_append, List.length_cons, show lo - 1 - (l.length : Int) = lo - ((l.length + 1 : Nat) : Int) by omega, show hi - 1 - (l.length : Int) = hi - ((l.length + 1 : Nat) : Int) by omega]
theorem prt_none : ∀ (l : List Int) (lo hi : Int), hi < 0 ∨ (l.length : Int) ≤ lo → prt l lo hi = []
  | [], _, _, _ => rfl
  | z :: l, lo, hi, h => by
    rw [List.length_cons] at h
    unfold prt
    rw [prt_none l (lo - 1) (hi - 1) (by omega), if_neg (by omega)]
    rfl
theorem mapR_none (f : Int → Int) : ∀ (l : List Int) (lo hi : Int), hi < 0 ∨ (l.length : Int) ≤ lo → mapR f l lo hi = l
  | [], _, _, _ => rfl
  | z :: l, lo, hi, h => by
    rw [List.length_cons] at h
    unfold mapR
    rw [mapR_none f l (lo - 1) (hi - 1) (by omega), if_neg (by omega)]
theorem prt_all : ∀ (l : List Int) (lo hi : Int), lo ≤ 0 → (l.length : Int) - 1 ≤ hi → prt l lo hi = l
  | [], _, _, _, _ => rfl
  | z :: l, lo, hi, h, k => by
    rw [List.length_cons] at k
    unfold prt
    rw [prt_all l (lo - 1) (hi - 1) (by omega) (by omega), if_pos (by omega)]
    rfl
theorem mapR_all (f : Int → Int) : ∀ (l : List Int) (lo hi : Int), lo ≤ 0 → (l.length : Int) - 1 ≤ hi → mapR f l lo hi = l.map f
  | [], _, _, _, _ => rfl
  | z :: l, lo, hi, h, k => by
    rw [List.length_cons] at k
    unfold mapR
    rw [mapR_all f l (lo - 1) (hi - 1) (by omega) (by omega), if_pos (by omega)]
    rfl
theorem prt_mem : ∀ (l : List Int) (lo hi z : Int), z ∈ prt l lo hi → z ∈ l
  | [], _, _, _, h => h
  | a :: l, lo, hi, z, h => by
    unfold prt at h
    rcases List.mem_append.1 h with e | e
    · by_cases c : lo ≤ 0 ∧ 0 ≤ hi
      · rw [if_pos c] at e; exact List.mem_cons.2 (.inl (by simpa using e))
      · rw [if_neg c] at e; cases e
    · exact List.mem_cons.2 (.inr (prt_mem l _ _ z e))
theorem prt_bds {l : List Int} (h : Bds l) (lo hi : Int) : Bds (prt l lo hi) := fun z hz => h z (prt_mem l lo hi z hz)
theorem mapR_get (f : Int → Int) : ∀ (l : List Int) (lo hi : Int) (i : Nat), (mapR f l lo hi)[i]? = l[i]?.map fun z => if lo ≤ (i : Int) ∧ (i : Int) ≤ hi then f z else z
  | [], _, _, i => by simp [mapR]
  | z :: l, lo, hi, 0 => by simp [mapR]
  | z :: l, lo, hi, i + 1 => by
    unfold mapR
    rw [List.getElem?_cons_succ, List.getElem?_cons_succ, mapR_get f l (lo - 1) (hi - 1) i]
    congr 1
    funext y
    have : (lo - 1 ≤ (i : Int) ∧ (i : Int) ≤ hi - 1) ↔ (lo ≤ ((i + 1 : Nat) : Int) ∧ ((i + 1 : Nat) : Int) ≤ hi) := by omega
    simp only [this]
theorem mapR_id (l : List Int) (lo hi : Int) : mapR (fun z => z) l lo hi = l := by
  apply List.ext_getElem?
  intro i
  rw [mapR_get]
  cases l[i]? with
  | none => rfl
  | some z => simp
end Go.Proofs.Ytefgfkicacbmeaa.Words
