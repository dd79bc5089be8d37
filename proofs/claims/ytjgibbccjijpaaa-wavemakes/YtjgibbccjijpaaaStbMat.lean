/-
  Plain mathematics of a stable sort by a key that is yes or no: rows as functions, exchanged and turned ranges, merging in place. No condition but what each theorem names.
-/
import Derived.Sort.LotA
namespace Go.Proofs.Ytjgibbccjijpaaa
open Go.Sort
variable {α : Type}

/-- The n places from a and the n places from b change their values. -/
def swF (f : Nat → α) (a b n : Nat) : Nat → α := fun j => if a ≤ j ∧ j < a + n then f (j - a + b) else if b ≤ j ∧ j < b + n then f (j - b + a) else f j
/-- The values from m on come ahead of the values from a on. -/
def rotF (f : Nat → α) (a m b : Nat) : Nat → α := fun j => if a ≤ j ∧ j < a + (b - m) then f (j + (m - a)) else if a + (b - m) ≤ j ∧ j < b then f (j - (b - m)) else f j
/-- The values from a on, ahead of b. -/
def sgF (f : Nat → α) (a b : Nat) : List α := (List.range' a (b - a)).map f

theorem swF_zero (f : Nat → α) (a b : Nat) : swF f a b 0 = f := by
  funext j
  unfold swF
  rw [if_neg (by omega), if_neg (by omega)]
theorem swF_succ (f : Nat → α) (a b n : Nat) (h : a + (n + 1) ≤ b) : swF f a b (n + 1) = fun j => if j = b + n then swF f a b n (a + n) else if j = a + n then swF f a b n (b + n) else swF f a b n j := by
  funext j
  unfold swF
  have e1 : ¬ (a ≤ a + n ∧ a + n < a + n) := by omega
  have e2 : ¬ (b ≤ a + n ∧ a + n < b + n) := by omega
  have e3 : ¬ (a ≤ b + n ∧ b + n < a + n) := by omega
  have e4 : ¬ (b ≤ b + n ∧ b + n < b + n) := by omega
  rw [if_neg e1, if_neg e2, if_neg e3, if_neg e4]
  by_cases h1 : j = b + n
  · rw [if_neg (by omega), if_pos (by omega), if_pos h1]
    congr 1; omega
  · rw [if_neg h1]
    by_cases h2 : j = a + n
    · rw [if_pos (by omega), if_pos h2]
      congr 1; omega
    · rw [if_neg h2]
      by_cases h3 : a ≤ j ∧ j < a + n
      · rw [if_pos (by omega), if_pos h3]
      · rw [if_neg (by omega), if_neg h3]
        by_cases h4 : b ≤ j ∧ j < b + n
        · rw [if_pos (by omega), if_pos h4]
        · rw [if_neg (by omega), if_neg h4]

/-- The two steps of a turn by exchanges, and its end. -/
theorem rotF_left (f : Nat → α) (m i j : Nat) (hi : i ≤ m) (h : j < i) : rotF (swF f (m - i) m j) (m - (i - j)) m (m + j) = rotF f (m - i) m (m + j) := by
  funext k
  unfold rotF swF
  repeat' split
  all_goals first | rfl | (exfalso; omega) | (congr 1; omega)
theorem rotF_right (f : Nat → α) (m i j : Nat) (hi : i ≤ m) (h : i < j) : rotF (swF f (m - i) (m + j - i) i) (m - i) m (m + (j - i)) = rotF f (m - i) m (m + j) := by
  funext k
  unfold rotF swF
  repeat' split
  all_goals first | rfl | (exfalso; omega) | (congr 1; omega)
theorem rotF_even (f : Nat → α) (m i : Nat) (hi : i ≤ m) : swF f (m - i) m i = rotF f (m - i) m (m + i) := by
  funext k
  unfold rotF swF
  repeat' split
  all_goals first | rfl | (exfalso; omega) | (congr 1; omega)
/-- One value goes up, one goes down, step by step. -/
theorem rotF_up (f : Nat → α) (a i : Nat) (h : a ≤ i) : (fun j => if j = i + 1 then rotF f a (a + 1) (i + 1) i else if j = i then rotF f a (a + 1) (i + 1) (i + 1) else rotF f a (a + 1) (i + 1) j) = rotF f a (a + 1) (i + 2) := by
  funext k
  unfold rotF
  repeat' split
  all_goals first | rfl | (exfalso; omega) | (congr 1; omega)
theorem rotF_down (f : Nat → α) (m i : Nat) (h : i < m) : (fun j => if j = i then rotF f (i + 1) m (m + 1) (i + 1) else if j = i + 1 then rotF f (i + 1) m (m + 1) i else rotF f (i + 1) m (m + 1) j) = rotF f i m (m + 1) := by
  funext k
  unfold rotF
  repeat' split
  all_goals first | rfl | (exfalso; omega) | (congr 1; omega)
theorem rotF_none (f : Nat → α) (a b : Nat) : rotF f a a b = f := by
  funext k
  unfold rotF
  repeat' split
  all_goals first | rfl | (exfalso; omega) | (congr 1; omega)
theorem rotF_none' (f : Nat → α) (a b : Nat) : rotF f a b b = f := by
  funext k
  unfold rotF
  repeat' split
  all_goals first | rfl | (exfalso; omega) | (congr 1; omega)
theorem rotF_out (f : Nat → α) (a m b j : Nat) (hm : a ≤ m) (hb : m ≤ b) (h : j < a ∨ b ≤ j) : rotF f a m b j = f j := by
  unfold rotF
  rw [if_neg (by omega), if_neg (by omega)]
theorem rotF_low (f : Nat → α) (a m b j : Nat) (h1 : a ≤ j) (h2 : j < a + (b - m)) : rotF f a m b j = f (j + (m - a)) := by
  unfold rotF
  rw [if_pos ⟨h1, h2⟩]
theorem rotF_high (f : Nat → α) (a m b j : Nat) (h1 : a + (b - m) ≤ j) (h2 : j < b) : rotF f a m b j = f (j - (b - m)) := by
  unfold rotF
  rw [if_neg (by omega), if_pos ⟨h1, h2⟩]

theorem sgF_app (f : Nat → α) (a b c : Nat) (h1 : a ≤ b) (h2 : b ≤ c) : sgF f a b ++ sgF f b c = sgF f a c := by
  unfold sgF
  rw [← List.map_append]
  have := List.range'_append (s := a) (m := b - a) (n := c - b) (step := 1)
  rw [show a + 1 * (b - a) = b by omega, show b - a + (c - b) = c - a by omega] at this
  rw [this]
theorem sgF_eq {f g : Nat → α} {a b : Nat} (h : ∀ j, a ≤ j → j < b → f j = g j) : sgF f a b = sgF g a b := by
  unfold sgF
  exact List.map_congr_left fun j hj => by
    obtain ⟨h1, h2⟩ := List.mem_range'_1.1 hj
    exact h j h1 (by omega)
theorem sgF_off {f g : Nat → α} {a b a' b' : Nat} (hl : b' - a' = b - a) (h : ∀ k, k < b - a → f (a' + k) = g (a + k)) : sgF f a' b' = sgF g a b := by
  unfold sgF
  rw [hl]
  apply List.ext_getElem?
  intro k
  rw [List.getElem?_map, List.getElem?_map]
  rcases Nat.lt_or_ge k (b - a) with hk | hk
  · rw [List.getElem?_range' hk, List.getElem?_range' hk]
    simp only [Option.map_some, Nat.one_mul]
    rw [h k hk]
  · rw [List.getElem?_eq_none (by rw [List.length_range']; exact hk), List.getElem?_eq_none (by rw [List.length_range']; exact hk)]; rfl
theorem sgF_nil (f : Nat → α) (a : Nat) : sgF f a a = [] := by simp [sgF]
theorem mem_sgF {f : Nat → α} {a b : Nat} {x : α} : x ∈ sgF f a b ↔ ∃ j, a ≤ j ∧ j < b ∧ f j = x := by
  unfold sgF
  rw [List.mem_map]
  constructor
  · rintro ⟨j, hj, rfl⟩
    obtain ⟨h1, h2⟩ := List.mem_range'_1.1 hj
    exact ⟨j, h1, by omega, rfl⟩
  · rintro ⟨j, h1, h2, rfl⟩
    exact ⟨j, List.mem_range'_1.2 ⟨h1, by omega⟩, rfl⟩
theorem sgF_rot (f : Nat → α) (a m b : Nat) (hm : a ≤ m) (hb : m ≤ b) : sgF (rotF f a m b) a b = sgF f m b ++ sgF f a m := by
  rw [← sgF_app (rotF f a m b) a (a + (b - m)) b (by omega) (by omega)]
  congr 1
  · exact sgF_off (by omega) fun k hk => by rw [rotF_low f a m b _ (by omega) (by omega)]; congr 1; omega
  · exact sgF_off (by omega) fun k hk => by rw [rotF_high f a m b _ (by omega) (by omega)]; congr 1; omega

/-- No value whose key says yes ahead of one whose key says no. -/
def Asc (key : α → Bool) (f : Nat → α) (a b : Nat) : Prop := ∀ i j, a ≤ i → i < j → j < b → key (f i) = true → key (f j) = true
/-- From a up to b the values have been sorted by their keys, equals in their order; nothing else has changed. -/
structure Kept (key : α → Bool) (f g : Nat → α) (a b : Nat) : Prop where
  out : ∀ j, (j < a ∨ b ≤ j) → g j = f j
  no : (sgF g a b).filter (fun x => !key x) = (sgF f a b).filter (fun x => !key x)
  yes : (sgF g a b).filter key = (sgF f a b).filter key
theorem Kept.refl (key : α → Bool) (f : Nat → α) (a b : Nat) : Kept key f f a b := ⟨fun _ _ => rfl, rfl, rfl⟩
theorem Kept.trans {key : α → Bool} {f g h : Nat → α} {a b : Nat} (h1 : Kept key f g a b) (h2 : Kept key g h a b) : Kept key f h a b := ⟨fun j hj => (h2.out j hj).trans (h1.out j hj), h2.no.trans h1.no, h2.yes.trans h1.yes⟩
theorem Kept.wide {key : α → Bool} {f g : Nat → α} {a b a' b' : Nat} (h : Kept key f g a b) (h1 : a' ≤ a) (hab : a ≤ b) (h2 : b ≤ b') : Kept key f g a' b' := by
  have e1 : sgF g a' a = sgF f a' a := sgF_eq fun j _ hj => h.out j (.inl hj)
  have e2 : sgF g b b' = sgF f b b' := sgF_eq fun j hj _ => h.out j (.inr hj)
  refine ⟨fun j hj => h.out j (by omega), ?_, ?_⟩
  · rw [← sgF_app g a' a b' h1 (by omega), ← sgF_app g a b b' hab h2, ← sgF_app f a' a b' h1 (by omega), ← sgF_app f a b b' hab h2]
    simp only [List.filter_append]
    rw [h.no, e1, e2]
  · rw [← sgF_app g a' a b' h1 (by omega), ← sgF_app g a b b' hab h2, ← sgF_app f a' a b' h1 (by omega), ← sgF_app f a b b' hab h2]
    simp only [List.filter_append]
    rw [h.yes, e1, e2]
/-- Whether some key says yes, or some says no, is kept. -/
theorem Kept.some_yes {key : α → Bool} {f g : Nat → α} {a b : Nat} (h : Kept key f g a b) {j : Nat} (h1 : a ≤ j) (h2 : j < b) (hk : key (g j) = true) : ∃ i, a ≤ i ∧ i < b ∧ key (f i) = true := by
  have hm : g j ∈ (sgF g a b).filter key := List.mem_filter.2 ⟨mem_sgF.2 ⟨j, h1, h2, rfl⟩, hk⟩
  rw [h.yes] at hm
  obtain ⟨hm, hk'⟩ := List.mem_filter.1 hm
  obtain ⟨i, g1, g2, g3⟩ := mem_sgF.1 hm
  exact ⟨i, g1, g2, by rw [g3]; exact hk'⟩
theorem Kept.some_no {key : α → Bool} {f g : Nat → α} {a b : Nat} (h : Kept key f g a b) {j : Nat} (h1 : a ≤ j) (h2 : j < b) (hk : key (g j) = false) : ∃ i, a ≤ i ∧ i < b ∧ key (f i) = false := by
  have hm : g j ∈ (sgF g a b).filter (fun x => !key x) := List.mem_filter.2 ⟨mem_sgF.2 ⟨j, h1, h2, rfl⟩, by rw [hk]; rfl⟩
  rw [h.no] at hm
  obtain ⟨hm, hk'⟩ := List.mem_filter.1 hm
  obtain ⟨i, g1, g2, g3⟩ := mem_sgF.1 hm
  exact ⟨i, g1, g2, by rw [g3]; simpa using hk'⟩
/-- A turn of yeses behind noes. -/
theorem kept_rot {key : α → Bool} {f : Nat → α} {a m b : Nat} (hm : a ≤ m) (hb : m ≤ b) (hy : ∀ j, a ≤ j → j < m → key (f j) = true) (hn : ∀ j, m ≤ j → j < b → key (f j) = false) : Kept key f (rotF f a m b) a b := by
  have ey : (sgF f a m).filter (fun x => !key x) = [] := by
    rw [List.filter_eq_nil_iff]
    intro x hx
    obtain ⟨j, h1, h2, rfl⟩ := mem_sgF.1 hx
    simp [hy j h1 h2]
  have en : (sgF f m b).filter key = [] := by
    rw [List.filter_eq_nil_iff]
    intro x hx
    obtain ⟨j, h1, h2, rfl⟩ := mem_sgF.1 hx
    simp [hn j h1 h2]
  refine ⟨fun j hj => rotF_out f a m b j hm hb hj, ?_, ?_⟩
  · rw [sgF_rot f a m b hm hb, ← sgF_app f a m b hm hb]
    simp only [List.filter_append]
    rw [ey]; simp
  · rw [sgF_rot f a m b hm hb, ← sgF_app f a m b hm hb]
    simp only [List.filter_append]
    rw [en]; simp
theorem asc_split {key : α → Bool} : ∀ (l : List α), (∀ (i j : Nat) (x y : α), i < j → l[i]? = some x → l[j]? = some y → key x = true → key y = true) → l = l.filter (fun x => !key x) ++ l.filter key
  | [], _ => rfl
  | x :: l, h => by
    have ih := asc_split l (fun i j x y hij hx hy => h (i + 1) (j + 1) x y (by omega) (by simpa using hx) (by simpa using hy))
    cases hk : key x with
    | false => simp only [List.filter_cons, hk, Bool.not_false, if_true, Bool.false_eq_true, if_false, List.cons_append]; rw [← ih]
    | true =>
      have hall : ∀ y ∈ l, key y = true := fun y hy => by
        obtain ⟨j, hj⟩ := List.getElem?_of_mem hy
        exact h 0 (j + 1) x y (by omega) rfl (by simpa using hj) hk
      have e1 : (x :: l).filter (fun x => !key x) = [] := by
        rw [List.filter_eq_nil_iff]
        intro y hy
        rcases List.mem_cons.1 hy with rfl | hy
        · simp [hk]
        · simp [hall y hy]
      have e2 : (x :: l).filter key = x :: l := List.filter_eq_self.2 fun y hy => by
        rcases List.mem_cons.1 hy with rfl | hy
        · exact hk
        · exact hall y hy
      rw [e1, e2]; rfl
/-- What has been sorted so is the noes, then the yeses. -/
theorem Kept.is {key : α → Bool} {f g : Nat → α} {a b : Nat} (h : Kept key f g a b) (hs : Asc key g a b) : sgF g a b = (sgF f a b).filter (fun x => !key x) ++ (sgF f a b).filter key := by
  rw [← h.no, ← h.yes]
  refine asc_split _ fun i j x y hij hx hy hk => ?_
  unfold sgF at hx hy
  rw [List.getElem?_map] at hx hy
  rcases Nat.lt_or_ge i (b - a) with hi | hi
  · rcases Nat.lt_or_ge j (b - a) with hj | hj
    · rw [List.getElem?_range' hi] at hx
      rw [List.getElem?_range' hj] at hy
      simp only [Option.map_some, Nat.one_mul, Option.some.injEq] at hx hy
      subst hx hy
      exact hs _ _ (by omega) (by omega) (by omega) hk
    · rw [List.getElem?_eq_none (by rw [List.length_range']; exact hj)] at hy; cases hy
  · rw [List.getElem?_eq_none (by rw [List.length_range']; exact hi)] at hx; cases hx
/-- Ahead of all: less by the key. -/
def klt (key : α → Bool) (x y : α) : Bool := !key x && key y
theorem klt_yes {key : α → Bool} {x y : α} (h : klt key x y = true) : key x = false ∧ key y = true := by
  unfold klt at h
  cases h1 : key x <;> cases h2 : key y <;> simp_all
theorem klt_no {key : α → Bool} {x y : α} (h : klt key x y = false) (hy : key y = true) : key x = true := by
  unfold klt at h
  cases h1 : key x <;> simp_all
theorem Asc.sub {key : α → Bool} {f : Nat → α} {a b a' b' : Nat} (h : Asc key f a b) (h1 : a ≤ a') (h2 : b' ≤ b) : Asc key f a' b' := fun i j hi hij hj hk => h i j (by omega) hij (by omega) hk
theorem Asc.le {key : α → Bool} {f : Nat → α} {a b : Nat} (h : Asc key f a b) {i j : Nat} (hi : a ≤ i) (hij : i ≤ j) (hj : j < b) (hk : key (f i) = true) : key (f j) = true := by
  rcases Nat.lt_or_eq_of_le hij with g | g
  · exact h i j hi g hj hk
  · rw [← g]; exact hk
theorem Asc.no {key : α → Bool} {f : Nat → α} {a b : Nat} (h : Asc key f a b) {i j : Nat} (hi : a ≤ i) (hij : i ≤ j) (hj : j < b) (hk : key (f j) = false) : key (f i) = false := by
  cases hki : key (f i) with
  | false => rfl
  | true => rw [h.le hi hij hj hki] at hk; cases hk
theorem Asc.eq {key : α → Bool} {f g : Nat → α} {a b : Nat} (h : Asc key f a b) (he : ∀ j, a ≤ j → j < b → g j = f j) : Asc key g a b := fun i j hi hij hj hk => by
  rw [he j (by omega) hj]
  rw [he i hi (by omega)] at hk
  exact h i j hi hij hj hk
theorem Asc.off {key : α → Bool} {f g : Nat → α} {a b a' b' : Nat} (h : Asc key f a b) (hl : b' - a' = b - a) (hb : a' ≤ b') (he : ∀ k, k < b - a → g (a' + k) = f (a + k)) : Asc key g a' b' := fun i j hi hij hj hk => by
  rw [show j = a' + (j - a') by omega, he _ (by omega)]
  rw [show i = a' + (i - a') by omega, he _ (by omega)] at hk
  exact h _ _ (by omega) (by omega) (by omega) hk

/-- One value ahead of a sorted range. -/
theorem merge_one {key : α → Bool} {f : Nat → α} {a i b : Nat} (hs : Asc key f (a + 1) b) (h1 : a + 1 ≤ i) (h2 : i ≤ b) (hlo : i = a + 1 ∨ klt key (f (i - 1)) (f a) = true) (hhi : i = b ∨ klt key (f i) (f a) = false) :
    Kept key f (rotF f a (a + 1) i) a b ∧ Asc key (rotF f a (a + 1) i) a b := by
  have hyes : i = a + 1 ∨ key (f a) = true := hlo.imp id fun h => (klt_yes h).2
  have hno : ∀ j, a + 1 ≤ j → j < i → key (f j) = false := fun j g1 g2 => by
    rcases hlo with h | h
    · omega
    · exact hs.no g1 (by omega) (by omega) (klt_yes h).1
  constructor
  · rcases hyes with rfl | hy
    · rw [rotF_none']; exact Kept.refl _ _ _ _
    · exact (kept_rot (by omega) h1 (fun j g1 g2 => by rw [show j = a by omega]; exact hy) hno).wide (Nat.le_refl _) (by omega) h2
  · intro p q g1 g2 g3 hk
    rcases Nat.lt_or_ge p (i - 1) with c | c
    · rw [rotF_low f a (a + 1) i p g1 (by omega), hno _ (by omega) (by omega)] at hk
      cases hk
    · have hka : key (f a) = true ∨ i ≤ p := by
        rcases Nat.lt_or_ge p i with c2 | c2
        · rw [rotF_high f a (a + 1) i p (by omega) c2, show p - (i - (a + 1)) = a by omega] at hk
          exact .inl hk
        · exact .inr c2
      rw [rotF_out f a (a + 1) i q (by omega) h1 (.inr (by omega))]
      rcases hka with hka | c2
      · rcases hhi with h | h
        · omega
        · exact hs.le (by omega) (show i ≤ q by omega) g3 (klt_no h hka)
      · rw [rotF_out f a (a + 1) i p (by omega) h1 (.inr c2)] at hk
        exact hs p q (by omega) g2 g3 hk
/-- One value behind a sorted range. -/
theorem merge_last {key : α → Bool} {f : Nat → α} {a i m : Nat} (hs : Asc key f a m) (h1 : a ≤ i) (h2 : i ≤ m) (hlo : i = a ∨ klt key (f m) (f (i - 1)) = false) (hhi : i = m ∨ klt key (f m) (f i) = true) :
    Kept key f (rotF f i m (m + 1)) a (m + 1) ∧ Asc key (rotF f i m (m + 1)) a (m + 1) := by
  have hyes : ∀ j, i ≤ j → j < m → key (f j) = true := fun j g1 g2 => by
    rcases hhi with h | h
    · omega
    · exact hs.le h1 g1 g2 (klt_yes h).2
  have hno : i = m ∨ key (f m) = false := hhi.imp id fun h => (klt_yes h).1
  constructor
  · rcases hno with rfl | hn
    · rw [rotF_none]; exact Kept.refl _ _ _ _
    · exact (kept_rot h2 (by omega) hyes (fun j g1 g2 => by rw [show j = m by omega]; exact hn)).wide h1 (by omega) (Nat.le_refl _)
  · intro p q g1 g2 g3 hk
    rcases Nat.lt_or_ge i q with c | c
    · rw [rotF_high f i m (m + 1) q (by omega) g3, show q - (m + 1 - m) = q - 1 by omega]
      exact hyes _ (by omega) (by omega)
    · rw [rotF_out f i m (m + 1) p h2 (by omega) (.inl (by omega))] at hk
      have hm : key (f m) = true := by
        rcases hlo with h | h
        · omega
        · exact klt_no h (hs.le g1 (show p ≤ i - 1 by omega) (by omega) hk)
      rcases Nat.lt_or_eq_of_le c with c2 | rfl
      · rw [rotF_out f i m (m + 1) q h2 (by omega) (.inl c2)]
        exact hs p q g1 g2 (by omega) hk
      · rw [rotF_low f q m (m + 1) q (by omega) (by omega), show q + (m - q) = m by omega]
        exact hm
/-- The turn about the middle: both halves hold what belongs there. -/
theorem merge_mid {key : α → Bool} {f : Nat → α} {a s m e b : Nat} (ha : Asc key f a m) (hb : Asc key f m b) (h1 : a ≤ s) (h2 : s ≤ m) (h3 : m ≤ e) (h4 : e ≤ b)
    (hlo : s = a ∨ e = b ∨ klt key (f e) (f (s - 1)) = false) (hhi : s = m ∨ e = m ∨ klt key (f (e - 1)) (f s) = true) :
    Kept key f (rotF f s m e) a b ∧ (∀ i j, a ≤ i → i < s + (e - m) → s + (e - m) ≤ j → j < b → key (rotF f s m e i) = true → key (rotF f s m e j) = true) := by
  constructor
  · rcases hhi with rfl | rfl | h
    · rw [rotF_none]; exact Kept.refl _ _ _ _
    · rw [rotF_none']; exact Kept.refl _ _ _ _
    · obtain ⟨k1, k2⟩ := klt_yes h
      rcases Nat.lt_or_eq_of_le h2 with c | rfl
      · rcases Nat.lt_or_eq_of_le h3 with c' | rfl
        · exact (kept_rot h2 h3 (fun j g1 g2 => ha.le h1 g1 g2 k2) (fun j g1 g2 => hb.no g1 (show j ≤ e - 1 by omega) (by omega) k1)).wide h1 (by omega) h4
        · rw [rotF_none']; exact Kept.refl _ _ _ _
      · rw [rotF_none]; exact Kept.refl _ _ _ _
  · intro i j g1 g2 g3 g4 hk
    rcases Nat.lt_or_ge i s with c | c
    · rw [rotF_out f s m e i h2 h3 (.inl c)] at hk
      rcases Nat.lt_or_ge j e with d | d
      · rw [rotF_high f s m e j g3 d]
        exact ha.le g1 (show i ≤ j - (e - m) by omega) (by omega) hk
      · rw [rotF_out f s m e j h2 h3 (.inr d)]
        rcases hlo with h | h | h
        · omega
        · omega
        · exact hb.le h3 d g4 (klt_no h (ha.le g1 (show i ≤ s - 1 by omega) (by omega) hk))
    · rw [rotF_low f s m e i c g2] at hk
      rcases Nat.lt_or_ge j e with d | d
      · exfalso
        rcases hhi with h | h | h
        · omega
        · omega
        · have := hb.le (show m ≤ i + (m - s) by omega) (show i + (m - s) ≤ e - 1 by omega) (by omega) hk
          rw [(klt_yes h).1] at this
          cases this
      · rw [rotF_out f s m e j h2 h3 (.inr d)]
        exact hb.le (show m ≤ i + (m - s) by omega) (by omega) g4 hk
/-- Both halves merged: all is. -/
theorem merge_done {key : α → Bool} {f g h k : Nat → α} {a c b : Nat} (hac : a ≤ c) (hcb : c ≤ b) (h0 : Kept key f g a b) (hx : ∀ i j, a ≤ i → i < c → c ≤ j → j < b → key (g i) = true → key (g j) = true) (h1 : Kept key g h a c) (s1 : Asc key h a c) (h2 : Kept key h k c b) (s2 : Asc key k c b) :
    Kept key f k a b ∧ Asc key k a b := by
  refine ⟨(h0.trans (h1.wide (Nat.le_refl _) hac hcb)).trans (h2.wide hac hcb (Nat.le_refl _)), fun i j g1 g2 g3 hk => ?_⟩
  rcases Nat.lt_or_ge j c with d | d
  · rw [h2.out j (.inl d)]
    rw [h2.out i (.inl (by omega))] at hk
    exact s1 i j g1 g2 d hk
  · rcases Nat.lt_or_ge i c with d' | d'
    · rw [h2.out i (.inl d')] at hk
      obtain ⟨i0, e1, e2, e3⟩ := h1.some_yes g1 d' hk
      cases hj : key (k j) with
      | true => rfl
      | false =>
        obtain ⟨j0, e4, e5, e6⟩ := h2.some_no d g3 hj
        rw [h1.out j0 (.inr e4)] at e6
        rw [hx i0 j0 e1 e2 e4 e5 e3] at e6
        cases e6
    · exact s2 i j d' g2 g3 hk
/-- The pieces of the turned row are sorted. -/
theorem asc_left {key : α → Bool} {f : Nat → α} {a s m e b : Nat} (ha : Asc key f a m) (hb : Asc key f m b) (h1 : a ≤ s) (h2 : s ≤ m) (h3 : m ≤ e) (h4 : e ≤ b) : Asc key (rotF f s m e) a s ∧ Asc key (rotF f s m e) s (s + (e - m)) ∧ Asc key (rotF f s m e) (s + (e - m)) e ∧ Asc key (rotF f s m e) e b := by
  refine ⟨(ha.sub (Nat.le_refl _) h2).eq fun j _ g => rotF_out f s m e j h2 h3 (.inl g), (hb.sub (Nat.le_refl _) h4).off (by omega) (by omega) fun k hk => ?_, (ha.sub h1 (Nat.le_refl _)).off (by omega) (by omega) fun k hk => ?_, (hb.sub h3 (Nat.le_refl _)).eq fun j g _ => rotF_out f s m e j h2 h3 (.inr g)⟩
  · rw [rotF_low f s m e _ (by omega) (by omega)]; congr 1; omega
  · rw [rotF_high f s m e _ (by omega) (by omega)]; congr 1; omega
end Go.Proofs.Ytjgibbccjijpaaa
