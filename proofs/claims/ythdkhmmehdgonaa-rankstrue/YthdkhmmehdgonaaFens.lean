/-
  Plain mathematics of Fenwick trees, of no program: where the range of an element begins ('frm'), the next range around it ('aro'), sums ('S'), the tree of a list ('tr') and the list of a tree ('numT'). No condition but what each theorem names.
-/
import Derived.Test.YthdkhmmehdgonaaSigned
namespace Go.Proofs.Ythdkhmmehdgonaa.Words
open Go Go.RowKit

/-- The first index of the range whose sum is element n: n with its lowest one bits cleared. -/
def frm (n : Nat) : Nat := if n % 2 = 1 then 2 * frm (n / 2) else n
termination_by n
decreasing_by omega
/-- The element with the shortest range around that of element n: n with its lowest zero bit set. -/
def aro (n : Nat) : Nat := if n % 2 = 1 then 2 * aro (n / 2) + 1 else n + 1
termination_by n
decreasing_by omega

theorem frm_even (a : Nat) : frm (2 * a) = 2 * a := by rw [frm, if_neg (by omega)]
theorem frm_odd (a : Nat) : frm (2 * a + 1) = 2 * frm a := by rw [frm, if_pos (by omega), show (2 * a + 1) / 2 = a by omega]
theorem aro_even (a : Nat) : aro (2 * a) = 2 * a + 1 := by rw [aro, if_neg (by omega)]
theorem aro_odd (a : Nat) : aro (2 * a + 1) = 2 * aro a + 1 := by rw [aro, if_pos (by omega), show (2 * a + 1) / 2 = a by omega]

theorem bin_ind {p : Nat → Prop} (h0 : ∀ a, p (2 * a)) (h1 : ∀ a, p a → p (2 * a + 1)) (n : Nat) : p n := by
  induction n using Nat.strongRecOn with
  | _ n ih =>
    rcases Nat.mod_two_eq_zero_or_one n with h | h
    · have := h0 (n / 2)
      rwa [show 2 * (n / 2) = n by omega] at this
    · have := h1 (n / 2) (ih (n / 2) (by omega))
      rwa [show 2 * (n / 2) + 1 = n by omega] at this

theorem frm_le (n : Nat) : frm n ≤ n := by
  induction n using bin_ind with
  | h0 a => rw [frm_even]; omega
  | h1 a ih => rw [frm_odd]; omega
theorem aro_gt (n : Nat) : n < aro n := by
  induction n using bin_ind with
  | h0 a => rw [aro_even]; omega
  | h1 a ih => rw [aro_odd]; omega
theorem aro_le (n : Nat) : aro n ≤ 2 * n + 1 := by
  induction n using bin_ind with
  | h0 a => rw [aro_even]; omega
  | h1 a ih => rw [aro_odd]; omega
theorem aro_mod (n : Nat) : aro n % 2 = 1 := by
  rcases Nat.mod_two_eq_zero_or_one n with h | h
  · rw [show n = 2 * (n / 2) by omega, aro_even]; omega
  · rw [show n = 2 * (n / 2) + 1 by omega, aro_odd]; omega

theorem and_step (x y : Nat) : x &&& y = 2 * (x / 2 &&& y / 2) + x % 2 * (y % 2) := by
  have h1 : (x &&& y) / 2 = x / 2 &&& y / 2 := Nat.and_div_two
  have h2 : (x &&& y) % 2 = x % 2 * (y % 2) := by
    have h : (x &&& y) % 2 = x % 2 &&& y % 2 := by simpa using @Nat.and_mod_two_pow x y 1
    rw [h]
    rcases Nat.mod_two_eq_zero_or_one x with a | a <;> rcases Nat.mod_two_eq_zero_or_one y with b | b <;> rw [a, b] <;> rfl
  omega
theorem or_step (x y : Nat) : x ||| y = 2 * (x / 2 ||| y / 2) + (x % 2 ||| y % 2) := by
  have h1 : (x ||| y) / 2 = x / 2 ||| y / 2 := Nat.or_div_two
  have h2 : (x ||| y) % 2 = x % 2 ||| y % 2 := by simpa using @Nat.or_mod_two_pow x y 1
  omega

theorem and_frm (n : Nat) : (n + 1) &&& n = frm n := by
  induction n using bin_ind with
  | h0 a =>
    rw [frm_even, and_step, show (2 * a + 1) / 2 = a by omega, show 2 * a / 2 = a by omega, show 2 * a % 2 = 0 by omega, Nat.and_self]
    omega
  | h1 a ih =>
    rw [frm_odd, and_step, show (2 * a + 1 + 1) / 2 = a + 1 by omega, show (2 * a + 1) / 2 = a by omega, show (2 * a + 1 + 1) % 2 = 0 by omega, ih]
    omega
theorem or_aro (n : Nat) : n ||| (n + 1) = aro n := by
  induction n using bin_ind with
  | h0 a =>
    rw [aro_even, or_step, show (2 * a + 1) / 2 = a by omega, show 2 * a / 2 = a by omega, show 2 * a % 2 = 0 by omega, show (2 * a + 1) % 2 = 1 by omega, Nat.or_self]
    rfl
  | h1 a ih =>
    rw [aro_odd, or_step, show (2 * a + 1 + 1) / 2 = a + 1 by omega, show (2 * a + 1) / 2 = a by omega, show (2 * a + 1 + 1) % 2 = 0 by omega, show (2 * a + 1) % 2 = 1 by omega, ih]
    rfl

/-- The lowest one bit, found by trying. -/
theorem low_end (k : Nat) : ∀ n : Nat, (n + 1) % 2 ^ k = 0 → (n + 1) % (2 * 2 ^ k) ≠ 0 → n + 1 - 2 ^ k = frm n := by
  induction k with
  | zero =>
    intro n _ h
    rw [Nat.pow_zero] at h ⊢
    rw [show n = 2 * (n / 2) by omega, frm_even]
    omega
  | succ k ih =>
    intro n h1 h2
    have hp := Nat.two_pow_pos k
    rw [Nat.pow_succ, Nat.mul_comm] at h1 ⊢
    rw [Nat.pow_succ, Nat.mul_comm (2 ^ k)] at h2
    have ho : n % 2 = 1 := by
      have := Nat.mod_mod_of_dvd (n + 1) (Nat.dvd_mul_right 2 (2 ^ k))
      rw [h1] at this
      omega
    obtain ⟨a, rfl⟩ : ∃ a, n = 2 * a + 1 := ⟨n / 2, by omega⟩
    rw [show 2 * a + 1 + 1 = 2 * (a + 1) by omega, Nat.mul_mod_mul_left] at h1
    rw [show 2 * a + 1 + 1 = 2 * (a + 1) by omega, Nat.mul_mod_mul_left] at h2
    have h := ih a (by omega) (by omega)
    rw [frm_odd, ← h]
    omega

/-- Element j's range contains index x. -/
def Cov (x j : Nat) : Prop := frm j ≤ x ∧ x ≤ j
instance (x j : Nat) : Decidable (Cov x j) := inferInstanceAs (Decidable (_ ∧ _))

theorem cov_self (j : Nat) : Cov j j := ⟨frm_le j, Nat.le_refl _⟩
theorem cov_even (x a : Nat) : Cov x (2 * a) ↔ x = 2 * a := by unfold Cov; rw [frm_even]; omega
theorem cov_odd (x a : Nat) : Cov x (2 * a + 1) ↔ Cov (x / 2) a := by unfold Cov; rw [frm_odd]; omega
theorem cov_aro (i j : Nat) : Cov (aro i) j ↔ Cov i j ∧ i ≠ j := by
  induction j using bin_ind generalizing i with
  | h0 a =>
    rw [cov_even, cov_even]
    have := aro_mod i
    omega
  | h1 a ih =>
    rw [cov_odd, cov_odd]
    rcases Nat.mod_two_eq_zero_or_one i with h | h
    · obtain ⟨b, rfl⟩ : ∃ b, i = 2 * b := ⟨i / 2, by omega⟩
      rw [aro_even, show (2 * b + 1) / 2 = b by omega, show 2 * b / 2 = b by omega]
      constructor
      · intro h'; exact ⟨h', by omega⟩
      · intro h'; exact h'.1
    · obtain ⟨b, rfl⟩ : ∃ b, i = 2 * b + 1 := ⟨i / 2, by omega⟩
      rw [aro_odd, show (2 * aro b + 1) / 2 = aro b by omega, show (2 * b + 1) / 2 = b by omega, ih]
      constructor
      · rintro ⟨h1, h2⟩; exact ⟨h1, by omega⟩
      · rintro ⟨h1, h2⟩; exact ⟨h1, by omega⟩

/-- The sum of the first n. -/
def S (f : Nat → Int) : Nat → Int
  | 0 => 0
  | n + 1 => S f n + f n
theorem S_succ (f : Nat → Int) (n : Nat) : S f (n + 1) = S f n + f n := rfl
theorem S_congr {f g : Nat → Int} (n : Nat) (h : ∀ c, c < n → f c = g c) : S f n = S g n := by
  induction n with
  | zero => rfl
  | succ n ih => rw [S_succ, S_succ, ih fun c hc => h c (by omega), h n (by omega)]
theorem S_none {f : Nat → Int} (n : Nat) (h : ∀ c, c < n → f c = 0) : S f n = 0 := by
  induction n with
  | zero => rfl
  | succ n ih => rw [S_succ, ih fun c hc => h c (by omega), h n (by omega)]; rfl
theorem S_ext {f : Nat → Int} (m d : Nat) (h : ∀ c, m ≤ c → f c = 0) : S f (m + d) = S f m := by
  induction d with
  | zero => rfl
  | succ d ih => rw [← Nat.add_assoc, S_succ, ih, h _ (by omega)]; omega
/-- Neighbours added up. -/
def half (f : Nat → Int) (a : Nat) : Int := f (2 * a) + f (2 * a + 1)
theorem S_half (f : Nat → Int) (n : Nat) : S f (2 * n) = S (half f) n := by
  induction n with
  | zero => rfl
  | succ n ih =>
    rw [show 2 * (n + 1) = 2 * n + 1 + 1 by omega, S_succ, S_succ, S_succ, ih]
    unfold half
    omega
theorem S_le {f : Nat → Int} (n : Nat) (B : Int) (h : ∀ c, c < n → -B ≤ f c ∧ f c ≤ B) : -((n : Int) * B) ≤ S f n ∧ S f n ≤ (n : Int) * B := by
  induction n with
  | zero => simp [S]
  | succ n ih =>
    have h1 := ih fun c hc => h c (by omega)
    have h2 := h n (by omega)
    have e : ((n + 1 : Nat) : Int) * B = (n : Int) * B + B := by rw [Int.natCast_add, Int.add_mul]; simp
    rw [S_succ, e]
    omega
theorem S_300 {f : Nat → Int} (n : Nat) (B : Int) (hB : 0 ≤ B) (hn : n ≤ 300) (h : ∀ c, c < n → -B ≤ f c ∧ f c ≤ B) : -(300 * B) ≤ S f n ∧ S f n ≤ 300 * B := by
  have h1 := S_le n B h
  have h2 : (n : Int) * B ≤ 300 * B := Int.mul_le_mul_of_nonneg_right (by omega) hB
  omega

/-- The tree of the list f. -/
def tr (f : Nat → Int) (j : Nat) : Int := S f (j + 1) - S f (frm j)
theorem tr_even (f : Nat → Int) (a : Nat) : tr f (2 * a) = f (2 * a) := by unfold tr; rw [frm_even, S_succ]; omega
theorem tr_odd (f : Nat → Int) (a : Nat) : tr f (2 * a + 1) = tr (half f) a := by
  unfold tr
  rw [frm_odd, show 2 * a + 1 + 1 = 2 * (a + 1) by omega, S_half, S_half]
/-- What the elements below i give to element j. -/
def kids (f : Nat → Int) (j i : Nat) : Int := S (fun c => if aro c = j then f c else 0) i

theorem tr_kids (f : Nat → Int) (j : Nat) : tr f j = f j + kids (tr f) j j := by
  induction j using bin_ind generalizing f with
  | h0 a =>
    rw [tr_even]
    unfold kids
    rw [S_none]
    · omega
    · intro c _
      have := aro_mod c
      rw [if_neg (by omega)]
  | h1 a ih =>
    rw [tr_odd, ih]
    unfold kids
    rw [S_succ, S_half, if_pos (aro_even a), tr_even]
    have e : S (half fun c => if aro c = 2 * a + 1 then tr f c else 0) a = S (fun c => if aro c = a then tr (half f) c else 0) a := by
      refine S_congr a fun c hc => ?_
      show (if aro (2 * c) = 2 * a + 1 then tr f (2 * c) else 0) + (if aro (2 * c + 1) = 2 * a + 1 then tr f (2 * c + 1) else 0) = if aro c = a then tr (half f) c else 0
      rw [aro_even, if_neg (by omega), aro_odd, tr_odd]
      by_cases h : aro c = a
      · rw [if_pos (by omega), if_pos h, Int.zero_add]
      · rw [if_neg (by omega), if_neg h]; rfl
    rw [e]
    show f (2 * a) + f (2 * a + 1) + _ = _
    omega

/-- What lies in the row when i elements have been added to the ranges around them. -/
def U (f : Nat → Int) (i j : Nat) : Int := f j + kids (tr f) j i
theorem U_zero (f : Nat → Int) (j : Nat) : U f 0 j = f j := by unfold U kids; simp [S]
theorem U_succ (f : Nat → Int) (i j : Nat) : U f (i + 1) j = U f i j + if aro i = j then tr f i else 0 := by unfold U kids; rw [S_succ]; omega
theorem U_all (f : Nat → Int) (i j : Nat) (h : j ≤ i) : U f i j = tr f j := by
  rw [tr_kids]
  unfold U kids
  rw [show i = j + (i - j) by omega, S_ext]
  intro c hc
  have := aro_gt c
  rw [if_neg (by omega)]
/-- One element more. -/
theorem U_step (f : Nat → Int) (i j : Nat) : U f (i + 1) j = if j = aro i then U f i (aro i) + U f i i else U f i j := by
  rw [U_succ, U_all f i i (Nat.le_refl _)]
  by_cases h : j = aro i
  · subst h; rw [if_pos rfl, if_pos rfl]
  · rw [if_neg (fun e => h e.symm), if_neg h]; omega
/-- And back. -/
theorem U_back (f : Nat → Int) (i j : Nat) : U f i j = if j = aro i then U f (i + 1) (aro i) - U f (i + 1) i else U f (i + 1) j := by
  have h1 := aro_gt i
  rw [U_all f (i + 1) i (by omega)]
  by_cases h : j = aro i
  · subst h; rw [if_pos rfl, U_succ, if_pos rfl]; omega
  · rw [if_neg h, U_succ, if_neg (fun e => h e.symm)]; omega

/-- The list that the tree t represents. -/
def numT (t : Nat → Int) (j : Nat) : Int := t j - kids t j j
theorem num_tr (f : Nat → Int) (j : Nat) : numT (tr f) j = f j := by unfold numT; rw [tr_kids]; omega
theorem kids_congr {f g : Nat → Int} (j : Nat) (h : ∀ c, c < j → f c = g c) : kids f j j = kids g j j := by
  unfold kids
  exact S_congr j fun c hc => by by_cases e : aro c = j <;> simp [e, h c hc]
theorem tr_num (t : Nat → Int) (j : Nat) : tr (numT t) j = t j := by
  induction j using Nat.strongRecOn with
  | _ j ih =>
    rw [tr_kids, kids_congr (g := t) j ih]
    unfold numT
    omega
theorem numT_congr {f g : Nat → Int} (j : Nat) (h : ∀ c, c ≤ j → f c = g c) : numT f j = numT g j := by
  unfold numT
  rw [h j (Nat.le_refl _), kids_congr j fun c hc => h c (by omega)]
theorem tr_congr {f g : Nat → Int} (j : Nat) (h : ∀ c, c ≤ j → f c = g c) : tr f j = tr g j := by
  have := frm_le j
  unfold tr
  rw [S_congr (j + 1) fun c hc => h c (by omega), S_congr (frm j) fun c hc => h c (by omega)]

/-- An element as the document reckons it: the tree's, less the list's elements ahead of it in its range. -/
theorem num_ahead (t : Nat → Int) (j : Nat) : numT t j = t j - (S (numT t) j - S (numT t) (frm j)) := by
  have h := tr_num t j
  unfold tr at h
  rw [S_succ] at h
  omega
/-- A range less: a sum by the tree. -/
theorem S_tree (t : Nat → Int) (j : Nat) : S (numT t) (j + 1) = S (numT t) (frm j) + t j := by
  have h := tr_num t j
  unfold tr at h
  omega

/-- One element of a list changed. -/
def upd (f : Nat → Int) (p : Nat) (v : Int) (j : Nat) : Int := if j = p then v else f j
theorem S_upd (f : Nat → Int) (p : Nat) (v : Int) (n : Nat) : S (upd f p v) n = S f n + if p < n then v - f p else 0 := by
  induction n with
  | zero => simp [S]
  | succ n ih =>
    rw [S_succ, S_succ, ih]
    unfold upd
    by_cases h : n = p
    · subst h; rw [if_neg (by omega), if_pos rfl, if_pos (by omega)]; omega
    · by_cases h2 : p < n
      · rw [if_pos h2, if_neg h, if_pos (by omega)]; omega
      · rw [if_neg h2, if_neg h, if_neg (by omega)]; omega
/-- The tree of the list of which one element was increased. -/
theorem tr_upd (f : Nat → Int) (p : Nat) (d : Int) (j : Nat) : tr (upd f p (f p + d)) j = tr f j + if Cov p j then d else 0 := by
  have hf := frm_le j
  unfold tr
  rw [S_upd, S_upd]
  by_cases h1 : p < frm j
  · rw [if_pos (show p < j + 1 by omega), if_pos h1, if_neg (show ¬ Cov p j by unfold Cov; omega)]; omega
  · by_cases h2 : p < j + 1
    · rw [if_pos h2, if_neg h1, if_pos (show Cov p j by unfold Cov; omega)]; omega
    · rw [if_neg h2, if_neg h1, if_neg (show ¬ Cov p j by unfold Cov; omega)]; omega

/-- While an element's change goes up: what the elements below the place q of the way already have. -/
def went (t : Nat → Int) (p q : Nat) (d : Int) (j : Nat) : Int := t j + if Cov p j ∧ ¬ Cov q j then d else 0
theorem went_start (t : Nat → Int) (p : Nat) (d : Int) (j : Nat) : went t p p d j = t j := by
  unfold went
  rw [if_neg fun h => h.2 h.1]; omega
theorem went_step (t : Nat → Int) (p q : Nat) (d : Int) (hq : Cov p q) (j : Nat) : went t p (aro q) d j = if j = q then went t p q d q + d else went t p q d j := by
  unfold went
  by_cases h : j = q
  · subst h
    rw [if_pos rfl, if_pos ⟨hq, fun h => ((cov_aro _ _).1 h).2 rfl⟩, if_neg fun h => h.2 (cov_self _)]
    omega
  · rw [if_neg h]
    by_cases h1 : Cov p j
    · by_cases h2 : Cov q j
      · rw [if_neg fun h3 => h3.2 ((cov_aro _ _).2 ⟨h2, fun e => h e.symm⟩), if_neg fun h3 => h3.2 h2]
      · rw [if_pos ⟨h1, fun h3 => h2 ((cov_aro _ _).1 h3).1⟩, if_pos ⟨h1, h2⟩]
    · rw [if_neg fun h3 => h1 h3.1, if_neg fun h3 => h1 h3.1]
theorem cov_up (p q : Nat) (h : Cov p q) : Cov p (aro q) := by
  have h1 := (cov_aro q (aro q)).1 (cov_self _)
  unfold Cov at h h1 ⊢
  have := frm_le q
  have h2 : frm (aro q) ≤ frm q := by
    clear h h1
    induction q using bin_ind with
    | h0 a => rw [aro_even, frm_odd, frm_even]; have := frm_le a; omega
    | h1 a ih => rw [aro_odd, frm_odd, frm_odd]; have := ih (frm_le a); omega
  omega
theorem went_end (t : Nat → Int) (p q n : Nat) (d : Int) (hq : n ≤ q) (j : Nat) (hj : j < n) : went t p q d j = t j + if Cov p j then d else 0 := by
  unfold went
  have h : ¬ Cov q j := fun h => by unfold Cov at h; omega
  by_cases h1 : Cov p j
  · rw [if_pos ⟨h1, h⟩, if_pos h1]
  · rw [if_neg fun h3 => h1 h3.1, if_neg h1]

/-- What is greater than no number of a limit is: bounds of all that is added up. -/
theorem num_bound (t : Nat → Int) (n : Nat) (hn : n ≤ 300) (B : Int) (hB : 0 ≤ B) (h : ∀ c, c < n → -B ≤ t c ∧ t c ≤ B) (j : Nat) (hj : j < n) : -(301 * B) ≤ numT t j ∧ numT t j ≤ 301 * B := by
  have h1 := h j hj
  have h2 := S_300 (f := fun c => if aro c = j then t c else 0) j B hB (by omega) fun c hc => by
    have := h c (by omega)
    by_cases e : aro c = j
    · simp only [e, if_true]; exact this
    · simp only [e, if_false]; omega
  unfold numT kids
  omega
theorem U_bound (f : Nat → Int) (n : Nat) (hn : n ≤ 300) (B C : Int) (hB : 0 ≤ B) (hf : ∀ c, c < n → -C ≤ f c ∧ f c ≤ C) (h : ∀ c, c < n → -B ≤ tr f c ∧ tr f c ≤ B) (i j : Nat) (hi : i ≤ n) (hj : j < n) : -(C + 300 * B) ≤ U f i j ∧ U f i j ≤ C + 300 * B := by
  have h1 := hf j hj
  have h2 := S_300 (f := fun c => if aro c = j then tr f c else 0) i B hB (by omega) fun c hc => by
    have := h c (by omega)
    by_cases e : aro c = j
    · simp only [e, if_true]; exact this
    · simp only [e, if_false]; omega
  unfold U kids
  omega
theorem tr_bound (f : Nat → Int) (n : Nat) (hn : n ≤ 300) (C : Int) (hC : 0 ≤ C) (hf : ∀ c, c < n → -C ≤ f c ∧ f c ≤ C) (j : Nat) (hj : j < n) : -(600 * C) ≤ tr f j ∧ tr f j ≤ 600 * C := by
  have h0 := frm_le j
  have h1 := S_300 (f := f) (j + 1) C hC (by omega) fun c hc => hf c (by omega)
  have h2 := S_300 (f := f) (frm j) C hC (by omega) fun c hc => hf c (by omega)
  unfold tr
  omega

/-- The first n values of f, as a list. -/
def vals (f : Nat → Int) (n : Nat) : List Int := (List.range n).map f
theorem vals_length (f : Nat → Int) (n : Nat) : (vals f n).length = n := by simp [vals]
theorem vals_get (f : Nat → Int) (n i : Nat) (h : i < n) : (vals f n)[i]? = some (f i) := by unfold vals; rw [List.getElem?_map, List.getElem?_range h]; rfl
theorem vals_congr {f g : Nat → Int} (n : Nat) (h : ∀ j, j < n → f j = g j) : vals f n = vals g n := by
  unfold vals
  exact List.map_congr_left fun j hj => h j (List.mem_range.1 hj)
theorem vals_succ (f : Nat → Int) (n : Nat) : vals f (n + 1) = vals f n ++ [f n] := by unfold vals; rw [List.range_succ, List.map_append]; rfl
theorem vals_set (f : Nat → Int) (n i : Nat) (v : Int) : (vals f n).set i v = vals (upd f i v) n := by
  apply List.ext_getElem?
  intro j
  by_cases hj : j < n
  · rw [vals_get _ _ _ hj, List.getElem?_set]
    unfold upd
    by_cases e : i = j
    · subst e; rw [if_pos rfl, if_pos (by rw [vals_length]; exact hj), if_pos rfl]
    · rw [if_neg e, if_neg (fun h => e h.symm), vals_get _ _ _ hj]
  · rw [List.getElem?_eq_none (by rw [List.length_set, vals_length]; omega), List.getElem?_eq_none (by rw [vals_length]; omega)]
/-- A list as a function. -/
def at0 (l : List Int) (j : Nat) : Int := l.getD j 0
theorem at0_get (l : List Int) (j : Nat) (x : Int) (h : l[j]? = some x) : at0 l j = x := by unfold at0; rw [List.getD, h]; rfl
theorem at0_some (l : List Int) (j : Nat) (h : j < l.length) : l[j]? = some (at0 l j) := by unfold at0; rw [List.getD, List.getElem?_eq_getElem h]; rfl
theorem at0_vals (f : Nat → Int) (n j : Nat) (h : j < n) : at0 (vals f n) j = f j := at0_get _ _ _ (vals_get f n j h)
theorem vals_at0 (l : List Int) : vals (at0 l) l.length = l := by
  apply List.ext_getElem?
  intro j
  by_cases h : j < l.length
  · rw [vals_get _ _ _ h, at0_some l j h]
  · rw [List.getElem?_eq_none (by rw [vals_length]; omega), List.getElem?_eq_none (by omega)]
end Go.Proofs.Ythdkhmmehdgonaa.Words
