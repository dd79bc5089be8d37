/-
  Plain mathematics of wavelet matrices, of no program: the numbers of a matrix, where a level sends the numbers of a range, how many numbers of a range are less than or equal to a number, the one with index k in the sorted range, the matrix of a list. No condition but what each theorem names.
-/
import Derived.Test.YtjgibbccjijpaaaLaid
namespace Go.Proofs.Ytjgibbccjijpaaa.Words
open Go Go.RowKit

/-- How many zeros a level of n bits has. -/
def zr (n : Nat) (b : Nat → Bool) : Nat := n - tally b n
/-- Where the next level has the number at place i. -/
def tos (n : Nat) (b : Nat → Bool) (i : Nat) : Nat := if b i then zr n b + tally b i else i - tally b i
/-- The number at place i of the first of these levels. -/
def val (n : Nat) : List (Nat → Bool) → Nat → Nat
  | [], _ => 0
  | b :: bs, i => (b i).toNat * 2 ^ bs.length + val n bs (tos n b i)

theorem val_lt (n : Nat) (bs : List (Nat → Bool)) : ∀ i, val n bs i < 2 ^ bs.length := by
  induction bs with
  | nil => intro i; simp [val]
  | cons b bs ih =>
    intro i
    have := ih (tos n b i)
    rw [val, List.length_cons, Nat.pow_succ]
    cases b i <;> simp <;> omega

/-- How many of the numbers of the places from f to t - 1 have the property. -/
def num (n : Nat) (bs : List (Nat → Bool)) (p : Nat → Bool) (f t : Nat) : Int := (tally (fun i => p (val n bs i)) t : Int) - (tally (fun i => p (val n bs i)) f : Int)

theorem part_tally (n : Nat) (b : Nat → Bool) (bs : List (Nat → Bool)) (p : Nat → Bool) (t : Nat) :
    tally (fun i => p (val n (b :: bs) i)) t + tally (fun j => p (2 ^ bs.length + val n bs j)) (zr n b) =
      tally (fun j => p (val n bs j)) (t - tally b t) + tally (fun j => p (2 ^ bs.length + val n bs j)) (zr n b + tally b t) := by
  induction t with
  | zero => simp [tally]
  | succ t ih =>
    have hle := tally_le b t
    rw [tally_succ (fun i => p (val n (b :: bs) i)), tally_succ b]
    cases hb : b t
    · have e : val n (b :: bs) t = val n bs (t - tally b t) := by rw [val, tos, hb]; simp
      rw [e]
      simp only [Bool.toNat_false, Nat.add_zero]
      rw [show t + 1 - tally b t = (t - tally b t) + 1 by omega, tally_succ]
      omega
    · have e : val n (b :: bs) t = 2 ^ bs.length + val n bs (zr n b + tally b t) := by rw [val, tos, hb]; simp
      rw [e]
      simp only [Bool.toNat_true]
      rw [show t + 1 - (tally b t + 1) = t - tally b t by omega, ← Nat.add_assoc, tally_succ (fun j => p (2 ^ bs.length + val n bs j))]
      omega

/-- A level parts the numbers of a range. -/
theorem num_part (n : Nat) (b : Nat → Bool) (bs : List (Nat → Bool)) (p : Nat → Bool) (f t : Nat) :
    num n (b :: bs) p f t = num n bs p (f - tally b f) (t - tally b t) + num n bs (fun v => p (2 ^ bs.length + v)) (zr n b + tally b f) (zr n b + tally b t) := by
  have h1 := part_tally n b bs p f
  have h2 := part_tally n b bs p t
  simp only [num]
  omega

theorem tally_all (p : Nat → Bool) (t : Nat) (h : ∀ i, i < t → p i = true) : tally p t = t := by
  induction t with
  | zero => rfl
  | succ t ih => rw [tally, ih fun i hi => h i (by omega), h t (by omega)]; rfl
theorem tally_none (p : Nat → Bool) (t : Nat) (h : ∀ i, i < t → p i = false) : tally p t = 0 := by
  induction t with
  | zero => rfl
  | succ t ih => rw [tally, ih fun i hi => h i (by omega), h t (by omega)]; rfl
theorem num_all (n : Nat) (bs : List (Nat → Bool)) (p : Nat → Bool) (f t : Nat) (h : ∀ v, v < 2 ^ bs.length → p v = true) : num n bs p f t = (t : Int) - f := by
  unfold num
  rw [tally_all _ t fun i _ => h _ (val_lt n bs i), tally_all _ f fun i _ => h _ (val_lt n bs i)]
theorem num_none (n : Nat) (bs : List (Nat → Bool)) (p : Nat → Bool) (f t : Nat) (h : ∀ v, v < 2 ^ bs.length → p v = false) : num n bs p f t = 0 := by
  unfold num
  rw [tally_none _ t fun i _ => h _ (val_lt n bs i), tally_none _ f fun i _ => h _ (val_lt n bs i)]; rfl
theorem num_congr (n : Nat) (bs : List (Nat → Bool)) (p q : Nat → Bool) (f t : Nat) (h : ∀ v, v < 2 ^ bs.length → p v = q v) : num n bs p f t = num n bs q f t := by
  unfold num
  rw [tally_congr (q := fun i => q (val n bs i)) (n := t) fun i _ => h _ (val_lt n bs i), tally_congr (q := fun i => q (val n bs i)) (n := f) fun i _ => h _ (val_lt n bs i)]

theorem tally_step_le (p : Nat → Bool) (f t : Nat) (h : f ≤ t) : tally p t ≤ tally p f + (t - f) := by
  obtain ⟨c, rfl⟩ := Nat.exists_eq_add_of_le h
  rw [tally_add]
  have := tally_le (fun i => p (f + i)) c
  omega
theorem num_nonneg (n : Nat) (bs : List (Nat → Bool)) (p : Nat → Bool) (f t : Nat) (h : f ≤ t) : 0 ≤ num n bs p f t := by
  unfold num
  have := tally_mono (fun i => p (val n bs i)) h
  omega
theorem num_le (n : Nat) (bs : List (Nat → Bool)) (p : Nat → Bool) (f t : Nat) (h : f ≤ t) : num n bs p f t ≤ (t : Int) - f := by
  unfold num
  have := tally_step_le (fun i => p (val n bs i)) f t h
  omega
/-- How many differ less where less have the property. -/
theorem tally_imp (p q : Nat → Bool) (h : ∀ i, p i = true → q i = true) (f t : Nat) (hft : f ≤ t) : (tally p t : Int) - tally p f ≤ (tally q t : Int) - tally q f := by
  obtain ⟨c, rfl⟩ := Nat.exists_eq_add_of_le hft
  rw [tally_add, tally_add]
  have : tally (fun i => p (f + i)) c ≤ tally (fun i => q (f + i)) c := by
    clear hft
    induction c with
    | zero => simp [tally]
    | succ c ih =>
      rw [tally, tally]
      cases hp : p (f + c)
      · simp; omega
      · rw [h _ hp]; simp; omega
  omega
theorem num_imp (n : Nat) (bs : List (Nat → Bool)) (p q : Nat → Bool) (h : ∀ v, p v = true → q v = true) (f t : Nat) (hft : f ≤ t) : num n bs p f t ≤ num n bs q f t := by
  unfold num
  exact tally_imp _ _ (fun i => h _) f t hft

/-- How many are less than x. -/
def less (n : Nat) (bs : List (Nat → Bool)) (x : Nat) (f t : Nat) : Int := num n bs (fun v => decide (v < x)) f t
/-- How many are x. -/
def same (n : Nat) (bs : List (Nat → Bool)) (x : Nat) (f t : Nat) : Int := num n bs (fun v => decide (v = x)) f t

theorem less_mono (n : Nat) (bs : List (Nat → Bool)) (x y : Nat) (h : x ≤ y) (f t : Nat) (hft : f ≤ t) : less n bs x f t ≤ less n bs y f t :=
  num_imp n bs _ _ (fun v hv => by simp at hv ⊢; omega) f t hft
theorem less_big (n : Nat) (bs : List (Nat → Bool)) (x : Nat) (h : 2 ^ bs.length ≤ x) (f t : Nat) : less n bs x f t = (t : Int) - f := num_all n bs _ f t fun v hv => by simp; omega
theorem same_big (n : Nat) (bs : List (Nat → Bool)) (x : Nat) (h : 2 ^ bs.length ≤ x) (f t : Nat) : same n bs x f t = 0 := num_none n bs _ f t fun v hv => by simp; omega
theorem less_zero (n : Nat) (bs : List (Nat → Bool)) (f t : Nat) : less n bs 0 f t = 0 := num_none n bs _ f t fun v hv => by simp
theorem less_nonneg (n : Nat) (bs : List (Nat → Bool)) (x f t : Nat) (h : f ≤ t) : 0 ≤ less n bs x f t := num_nonneg _ _ _ _ _ h
theorem less_le (n : Nat) (bs : List (Nat → Bool)) (x f t : Nat) (h : f ≤ t) : less n bs x f t ≤ (t : Int) - f := num_le _ _ _ _ _ h
theorem less_nil (n f t : Nat) : less n [] 0 f t = 0 := less_zero n [] f t
theorem same_nil (n f t : Nat) : same n [] 0 f t = (t : Int) - f := num_all n [] _ f t fun v hv => by simp at hv ⊢; exact hv

/-- One level of a comparison: the digit is 0. -/
theorem less_zero_digit (n : Nat) (b : Nat → Bool) (bs : List (Nat → Bool)) (x : Nat) (hx : x < 2 ^ bs.length) (f t : Nat) :
    less n (b :: bs) x f t = less n bs x (f - tally b f) (t - tally b t) := by
  unfold less
  rw [num_part, num_none n bs (fun v => decide (2 ^ bs.length + v < x)) _ _ (fun v _ => by simp; omega)]
  omega
theorem same_zero_digit (n : Nat) (b : Nat → Bool) (bs : List (Nat → Bool)) (x : Nat) (hx : x < 2 ^ bs.length) (f t : Nat) :
    same n (b :: bs) x f t = same n bs x (f - tally b f) (t - tally b t) := by
  unfold same
  rw [num_part, num_none n bs (fun v => decide (2 ^ bs.length + v = x)) _ _ (fun v _ => by simp; omega)]
  omega
/-- .. the digit is 1. -/
theorem less_one_digit (n : Nat) (b : Nat → Bool) (bs : List (Nat → Bool)) (x : Nat) (f t : Nat) :
    less n (b :: bs) (2 ^ bs.length + x) f t = ((t - tally b t : Nat) : Int) - ((f - tally b f : Nat) : Int) + less n bs x (zr n b + tally b f) (zr n b + tally b t) := by
  unfold less
  rw [num_part, num_all n bs (fun v => decide (v < 2 ^ bs.length + x)) _ _ (fun v _ => by simp; omega), num_congr n bs (fun v => decide (2 ^ bs.length + v < 2 ^ bs.length + x)) (fun v => decide (v < x)) _ _ (fun v _ => by simp)]
theorem same_one_digit (n : Nat) (b : Nat → Bool) (bs : List (Nat → Bool)) (x : Nat) (f t : Nat) :
    same n (b :: bs) (2 ^ bs.length + x) f t = same n bs x (zr n b + tally b f) (zr n b + tally b t) := by
  unfold same
  rw [num_part, num_none n bs (fun v => decide (v = 2 ^ bs.length + x)) _ _ (fun v _ => by simp; omega), num_congr n bs (fun v => decide (2 ^ bs.length + v = 2 ^ bs.length + x)) (fun v => decide (v = x)) _ _ (fun v _ => by simp)]
  omega

/-- The number with index k in the sorted list of the numbers from f to t - 1. -/
def kv (n : Nat) : List (Nat → Bool) → Nat → Nat → Nat → Nat
  | [], _, _, _ => 0
  | b :: bs, f, t, k =>
    if k < (t - tally b t) - (f - tally b f) then kv n bs (f - tally b f) (t - tally b t) k
    else 2 ^ bs.length + kv n bs (zr n b + tally b f) (zr n b + tally b t) (k - ((t - tally b t) - (f - tally b f)))

theorem kv_lt (n : Nat) (bs : List (Nat → Bool)) : ∀ f t k, kv n bs f t k < 2 ^ bs.length := by
  induction bs with
  | nil => intro f t k; simp [kv]
  | cons b bs ih =>
    intro f t k
    rw [kv, List.length_cons, Nat.pow_succ]
    split
    · have := ih (f - tally b f) (t - tally b t) k; omega
    · have := ih (zr n b + tally b f) (zr n b + tally b t) (k - ((t - tally b t) - (f - tally b f))); omega

theorem zeros_mono (b : Nat → Bool) {f t : Nat} (h : f ≤ t) : f - tally b f ≤ t - tally b t := by
  have := tally_step_le b f t h
  have := tally_le b f
  omega

theorem kv_spec (n : Nat) (bs : List (Nat → Bool)) : ∀ f t k, f ≤ t → k < t - f → less n bs (kv n bs f t k) f t ≤ k ∧ (k : Int) < less n bs (kv n bs f t k + 1) f t := by
  induction bs with
  | nil =>
    intro f t k h hk
    rw [kv, less_zero, less_big n [] (0 + 1) (by simp) f t]
    omega
  | cons b bs ih =>
    intro f t k h hk
    have hz := zeros_mono b h
    have ho := tally_mono b h
    have hl1 := tally_le b f
    have hl2 := tally_le b t
    rw [kv]
    split
    · rename_i hlt
      have hv := kv_lt n bs (f - tally b f) (t - tally b t) k
      obtain ⟨h1, h2⟩ := ih (f - tally b f) (t - tally b t) k hz hlt
      refine ⟨by rw [less_zero_digit n b bs _ hv]; exact h1, ?_⟩
      by_cases hs : kv n bs (f - tally b f) (t - tally b t) k + 1 < 2 ^ bs.length
      · rw [less_zero_digit n b bs _ hs]; exact h2
      · rw [show kv n bs (f - tally b f) (t - tally b t) k + 1 = 2 ^ bs.length + 0 by omega, less_one_digit, less_zero]
        omega
    · rename_i hlt
      obtain ⟨h1, h2⟩ := ih (zr n b + tally b f) (zr n b + tally b t) (k - ((t - tally b t) - (f - tally b f))) (by omega) (by omega)
      rw [less_one_digit, Nat.add_assoc, less_one_digit]
      omega

/-- There is one such number alone. -/
theorem kth_unique (n : Nat) (bs : List (Nat → Bool)) (f t : Nat) (k : Int) (u v : Nat) (h : f ≤ t) (h1 : less n bs u f t ≤ k) (h2 : k < less n bs (u + 1) f t) (g1 : less n bs v f t ≤ k) (g2 : k < less n bs (v + 1) f t) : u = v := by
  rcases Nat.lt_trichotomy u v with e | e | e
  · have := less_mono n bs (u + 1) v e f t h; omega
  · exact e
  · have := less_mono n bs (v + 1) u e f t h; omega

/-- Among the numbers of a range that are counted is one. -/
theorem tally_some (p : Nat → Bool) (f t : Nat) (h : tally p f < tally p t) : ∃ i, f ≤ i ∧ i < t ∧ p i = true := by
  induction t with
  | zero => simp [tally] at h
  | succ t ih =>
    rw [tally] at h
    by_cases hft : f ≤ t
    · cases hp : p t
      · rw [hp] at h
        obtain ⟨i, h1, h2, h3⟩ := ih (by simpa using h)
        exact ⟨i, h1, by omega, h3⟩
      · exact ⟨t, hft, by omega, hp⟩
    · have := tally_mono p (show t + 1 ≤ f by omega)
      rw [tally] at this; omega
theorem num_some (n : Nat) (bs : List (Nat → Bool)) (p : Nat → Bool) (f t : Nat) (h : 0 < num n bs p f t) : ∃ i, f ≤ i ∧ i < t ∧ p (val n bs i) = true := by
  unfold num at h
  exact tally_some _ f t (by omega)

theorem same_less (n : Nat) (bs : List (Nat → Bool)) (x f t : Nat) : less n bs (x + 1) f t = less n bs x f t + same n bs x f t := by
  have key : ∀ m, tally (fun i => decide (val n bs i < x + 1)) m = tally (fun i => decide (val n bs i < x)) m + tally (fun i => decide (val n bs i = x)) m := by
    intro m
    induction m with
    | zero => rfl
    | succ m ih =>
      rw [tally, tally, tally, ih]
      rcases Nat.lt_trichotomy (val n bs m) x with e | e | e
      · simp [show val n bs m < x + 1 by omega, e, show ¬ val n bs m = x by omega]; omega
      · simp [e]; omega
      · simp [show ¬ val n bs m < x + 1 by omega, show ¬ val n bs m < x by omega, show ¬ val n bs m = x by omega]
  simp only [less, same, num]
  rw [key t, key f]
  omega

/-- The number of one place. -/
theorem kv_one (n : Nat) (bs : List (Nat → Bool)) (i : Nat) : kv n bs i (i + 1) 0 = val n bs i := by
  obtain ⟨h1, h2⟩ := kv_spec n bs i (i + 1) 0 (by omega) (by omega)
  refine kth_unique n bs i (i + 1) 0 _ _ (by omega) h1 h2 ?_ ?_
  · simp [less, num, tally]
  · simp [less, num, tally]; omega

theorem num_cut (n : Nat) (bs : List (Nat → Bool)) (p : Nat → Bool) (f m t : Nat) : num n bs p f m + num n bs p m t = num n bs p f t := by unfold num; omega
end Go.Proofs.Ytjgibbccjijpaaa.Words
