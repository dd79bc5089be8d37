/-
  What pack.Wide, and the document's answer to it, return: contracts, walked over the translated text. No condition but what each theorem names.
-/
import Derived.Test.YtmlekhgjnhnjlaaDoorPop
import Derived.Test.YtmlekhgjnhnjlaaDoorPacks
import Derived.Test.YtmlekhgjnhnjlaaDoorLen64
import Derived.Test.YtmlekhgjnhnjlaaDoorMem
import Derived.IntWalk
namespace Go.Proofs.YtmlekhgjnhnjlaaDoor
open Go.RowKit Words

theorem wrap_neg (v : Int) (h0 : v < 0) (h1 : -9223372036854775808 ≤ v) : IntKind.u64.wrap v = ((v + 18446744073709551616).toNat : Int) := by rw [IntKind.wrap_u64]; omega

/-- A number that is not negative and fits into d bits. -/
def Fit (d : Nat) (v : Int) : Prop := 0 ≤ v ∧ v < (2 ^ d : Nat)
instance (d : Nat) (v : Int) : Decidable (Fit d v) := by unfold Fit; infer_instance

/-- pack.fits. -/
theorem fits_any (v : Int) (d : Nat) (w : World) (hw : (Lit.int .i64 v).wf = true) (hd : d ≤ 62) :
    Calls Tryd.prog 43 #[.int .i64 v, .int .i64 d] w fun e w' => e = .returned (.bool (decide (Fit d v))) ∧ w = w' := by
  have hb := bounds_i64 hw
  have hp := pow62 hd
  clear hw
  by_cases h0 : v < 0
  · have hwr := wrap_neg v h0 hb.1
    obtain ⟨y, hy⟩ : ∃ y : Nat, y = (v + 18446744073709551616).toNat := ⟨_, rfl⟩
    rw [← hy] at hwr
    have hge : 9223372036854775808 ≤ y := by omega
    have hz : ((y : Int) / 2 ^ d == 0) = false := by
      have e : ((y : Int) / 2 ^ d) = ((y / 2 ^ d : Nat) : Int) := by simp
      have : 0 < y / 2 ^ d := Nat.div_pos (by omega) (Nat.two_pow_pos d)
      rw [e, beq_eq_false_iff_ne]
      omega
    have hf : decide (Fit d v) = false := decide_eq_false fun h => by have := h.1; omega
    rw [hf]
    clear hf hy hp
    go_enter Tryd.func43, Tryd.ntmps43
    go_wp2
    go_ret
    exact ⟨rfl, rfl⟩
  · obtain ⟨y, rfl⟩ := Int.eq_ofNat_of_zero_le (a := v) (by omega)
    have e : ((y : Int) / 2 ^ d) = ((y / 2 ^ d : Nat) : Int) := by simp
    have hz : ((y : Int) / 2 ^ d == 0) = decide (Fit d y) := by
      rw [e]
      by_cases hl : y < 2 ^ d
      · rw [Nat.div_eq_of_lt hl]; simp [Fit]; exact_mod_cast hl
      · have : 0 < y / 2 ^ d := Nat.div_pos (by omega) (Nat.two_pow_pos d)
        have hf : decide (Fit d y) = false := by
          simp only [decide_eq_false_iff_not]
          rintro ⟨_, h⟩
          exact hl (by exact_mod_cast h)
        rw [hf, beq_eq_false_iff_ne]
        omega
    generalize decide (Fit d (y : Int)) = t at *
    clear e hp
    go_enter Tryd.func43, Tryd.ntmps43
    go_wp2
    go_ret
    exact ⟨rfl, rfl⟩

/-- The smallest width of all numbers of a list. -/
def wideOf (l : List Int) : Nat := l.foldl (fun m z => max m (Lib.bitLen z.toNat)) 0

theorem wideOf_step (l : List Int) (i : Nat) (z : Int) (h : l[i]? = some z) : wideOf (l.take (i + 1)) = max (wideOf (l.take i)) (Lib.bitLen z.toNat) := by
  unfold wideOf
  rw [List.take_add_one, h]
  simp [List.foldl_append]

/-- What the document asks of Wide. -/
def wideAns (l : List Int) : Nat × Nat := if (∀ z ∈ l, Fit 62 z) then (wideOf l, 0) else (0, 2)

theorem wideAns_good {l : List Int} (h : ∀ i z, i < l.length → l[i]? = some z → Fit 62 z) : wideAns l = (wideOf l, 0) := if_pos fun z hz => by
  obtain ⟨i, hi, e⟩ := List.getElem_of_mem hz
  exact h i z hi (by rw [List.getElem?_eq_getElem hi, e])
theorem wideAns_bad {l : List Int} {i : Nat} {z : Int} (h : l[i]? = some z) (hz : ¬ Fit 62 z) : wideAns l = (0, 2) := if_neg fun hh => hz (hh z (List.mem_of_getElem? h))

theorem bitLen_62 {z : Int} (h : Fit 62 z) : Lib.bitLen z.toNat ≤ 62 := by
  have h2 : z < 4611686018427387904 := h.2
  rw [bitLen_lt _ (by omega)]
  show z.toNat < 4611686018427387904
  omega


theorem pow_int2 (k : Nat) (h : k < 63) : IntKind.i64.wrap (2 ^ k) = ((2 ^ k : Nat) : Int) := by
  have hp : 2 ^ k ≤ 4611686018427387904 := pow62 (by omega)
  have e : ((2 : Int) ^ k) = ((2 ^ k : Nat) : Int) := by simp
  rw [e, IntKind.wrap_i64]
  generalize 2 ^ k = p at *
  omega

end Go.Proofs.YtmlekhgjnhnjlaaDoor
