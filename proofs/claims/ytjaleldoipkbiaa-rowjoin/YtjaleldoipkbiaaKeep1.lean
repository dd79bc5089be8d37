/-
  The small functions of the first chapter's statements: contracts, walked over the translated text. No condition but what each theorem names.
-/
import Derived.Test.YtjaleldoipkbiaaPop
namespace Go.Proofs.Ytjaleldoipkbiaa
open Go.RowKit Words

/-- damaskkeep.Picked: a number below n. -/
theorem picked_all (a : Int) (n : Nat) (h0 : 0 < n) (hn : n ≤ 1000000) (ha : (Lit.int .i64 a).wf = true) :
    ∃ k : Nat, k < n ∧ ∀ w : World, Calls Try.prog 20 #[.int .i64 a, .int .i64 n] w fun e w' => e = .returned (.int .i64 k) ∧ w = w' := by
  have hb := bounds_i64 ha
  have t1 : a.tmod n < n := Int.tmod_lt_of_pos a (by omega)
  have t2 : -(n : Int) < a.tmod n := Int.lt_tmod_of_pos a (by omega)
  by_cases h : a.tmod n < 0
  · refine ⟨(a.tmod n + n).toNat, by omega, fun w => ?_⟩
    go_enter Try.func20, Try.ntmps20
    go_wp2
    go_ret
    refine ⟨congrArg Ending.returned (congrArg (Value.int IntKind.i64) ?_), rfl⟩
    first | omega | (simp only [wrap64]; omega)
  · refine ⟨(a.tmod n).toNat, by omega, fun w => ?_⟩
    go_enter Try.func20, Try.ntmps20
    go_wp2
    go_ret
    refine ⟨congrArg Ending.returned (congrArg (Value.int IntKind.i64) ?_), rfl⟩
    omega

theorem picked_any (a : Int) (n : Nat) (w : World) (h0 : 0 < n) (hn : n ≤ 1000000) (ha : (Lit.int .i64 a).wf = true) :
    ∃ k : Nat, k < n ∧ Calls Try.prog 20 #[.int .i64 a, .int .i64 n] w fun e w' => e = .returned (.int .i64 k) ∧ w = w' := by
  obtain ⟨k, hk, h⟩ := picked_all a n h0 hn ha
  exact ⟨k, hk, h w⟩
end Go.Proofs.Ytjaleldoipkbiaa
