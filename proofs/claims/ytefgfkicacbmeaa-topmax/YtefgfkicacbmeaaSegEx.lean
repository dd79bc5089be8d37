/-
  What seg.check and (*node).execute return: contracts, walked over the translated text. No condition but what each theorem names.
-/
import Derived.Test.YtefgfkicacbmeaaSegAsk
namespace Go.Proofs.Ytefgfkicacbmeaa
open Go.RowKit Words

/-- A number from -MaxCoord to MaxCoord. -/
def Co (z : Int) : Prop := -1048576 ≤ z ∧ z ≤ 1048576
instance (z : Int) : Decidable (Co z) := inferInstanceAs (Decidable (_ ∧ _))

/-- seg.isCoord. -/
theorem coord_any (z : Int) (w : World) : Calls Try.prog 60 #[.int .i64 z] w fun e w' => e = .returned (.bool (decide (Co z))) ∧ w = w' := by
  have hd : decide (Co z) = (decide (-1048576 ≤ z) && decide (z ≤ 1048576)) := Bool.eq_iff_iff.2 (by simp only [decide_eq_true_eq, Bool.and_eq_true]; exact Iff.rfl)
  rw [hd]
  by_cases a : -1048576 ≤ z
  · by_cases b : z ≤ 1048576
    · rw [decide_eq_true a, decide_eq_true b]
      go_enter Try.func60, Try.ntmps60
      go_wp2_with fail
      go_ret
      exact ⟨rfl, rfl⟩
    · rw [decide_eq_true a, decide_eq_false b]
      go_enter Try.func60, Try.ntmps60
      go_wp2_with fail
      go_ret
      exact ⟨rfl, rfl⟩
  · rw [decide_eq_false a]
    go_enter Try.func60, Try.ntmps60
    go_wp2_with fail
    go_ret
    exact ⟨rfl, rfl⟩

/-- An operation's error. -/
def chk (k lo hi by_ n : Int) : Int := if k < 1 ∨ 4 < k then 3 else if lo < 0 ∨ hi < lo ∨ n ≤ hi then 2 else if k ≤ 2 ∧ ¬ Co by_ then 2 else 0

set_option maxHeartbeats 1000000 in
/-- seg.check. -/
theorem check_any (k lo hi by_ n : Int) (w : World) :
    Calls Try.prog 82 #[.agg #[.int .i64 k, .int .i64 lo, .int .i64 hi, .int .i64 by_], .int .i64 n] w fun e w' => e = .returned (.int .i64 (chk k lo hi by_ n)) ∧ Below w.heap.size w w' := by
  unfold chk
  by_cases c1 : k < 1
  · rw [if_pos (.inl c1)]
    go_enter Try.func82, Try.ntmps82
    go_wp2_with fail
    go_ret
    exact ⟨rfl, bnew _ _⟩
  by_cases c2 : 4 < k
  · rw [if_pos (.inr c2)]
    go_enter Try.func82, Try.ntmps82
    go_wp2_with fail
    go_ret
    exact ⟨rfl, bnew _ _⟩
  rw [if_neg (by omega)]
  by_cases c3 : lo < 0
  · rw [if_pos (.inl c3)]
    go_enter Try.func82, Try.ntmps82
    go_wp2_with fail
    go_ret
    exact ⟨rfl, bnew _ _⟩
  by_cases c4 : hi < lo
  · rw [if_pos (.inr (.inl c4))]
    go_enter Try.func82, Try.ntmps82
    go_wp2_with fail
    go_ret
    exact ⟨rfl, bnew _ _⟩
  by_cases c5 : n ≤ hi
  · rw [if_pos (.inr (.inr c5))]
    go_enter Try.func82, Try.ntmps82
    go_wp2_with fail
    go_ret
    exact ⟨rfl, bnew _ _⟩
  rw [if_neg (by omega)]
  have HC := Lib.hid (fun W => coord_any by_ W)
  by_cases c6 : k ≤ 2
  · by_cases c7 : Co by_
    · rw [if_neg (by simp [c7])]
      rw [decide_eq_true c7] at HC
      have h : k = 1 ∨ k = 2 := by omega
      clear c1 c2 c6 c7
      rcases h with rfl | rfl
      all_goals
        go_enter Try.func82, Try.ntmps82
        go_wp2_with fail
        refine (HC.out _).mono ?_
        rintro e w1 ⟨rfl, rfl⟩
        go_wp2_with fail
        go_ret
        exact ⟨rfl, bnew _ _⟩
    · rw [if_pos ⟨c6, c7⟩]
      rw [decide_eq_false c7] at HC
      have h : k = 1 ∨ k = 2 := by omega
      clear c1 c2 c6 c7
      rcases h with rfl | rfl
      all_goals
        go_enter Try.func82, Try.ntmps82
        go_wp2_with fail
        refine (HC.out _).mono ?_
        rintro e w1 ⟨rfl, rfl⟩
        go_wp2_with fail
        go_ret
        exact ⟨rfl, bnew _ _⟩
  · rw [if_neg (by omega)]
    have h : k = 3 ∨ k = 4 := by omega
    clear c1 c2 c6
    rcases h with rfl | rfl
    all_goals
      go_enter Try.func82, Try.ntmps82
      go_wp2_with fail
      go_ret
      exact ⟨rfl, bnew _ _⟩
end Go.Proofs.Ytefgfkicacbmeaa
