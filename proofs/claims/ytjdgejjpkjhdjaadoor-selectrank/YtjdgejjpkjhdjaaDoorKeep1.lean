/-
  The small functions of the first chapter's statements: contracts, walked over the translated text. No condition but what each theorem names.
-/
import Derived.Test.YtjdgejjpkjhdjaaDoorPop
namespace Go.Proofs.YtjdgejjpkjhdjaaDoor
open Go.RowKit Words

/-- damaskkeep.popRank. -/
theorem popRank_in (x i : Nat) (w : World) (hx : x < 18446744073709551616) (h : i ≤ 64) :
    Calls Tryd.prog 9 #[.int .u64 x, .int .i64 i] w fun e w' => e = .returned (.int .i64 (cnt x i)) ∧ w = w' := by
  have hr := rank_in x i w hx h
  go_enter Tryd.func9, Tryd.ntmps9
  go_wp2_with (go_at_call 14; refine hr.mono ?_; rintro e w' ⟨rfl, rfl⟩)
  go_ret
  exact ⟨rfl, rfl⟩

/-- damaskkeep.Picked: a number below n. -/
theorem picked_any (a : Int) (n : Nat) (w : World) (h0 : 0 < n) (hn : n ≤ 1000000) (ha : (Lit.int .i64 a).wf = true) :
    ∃ k : Nat, k < n ∧ Calls Tryd.prog 8 #[.int .i64 a, .int .i64 n] w fun e w' => e = .returned (.int .i64 k) ∧ w = w' := by
  have hb := bounds_i64 ha
  have t1 : a.tmod n < n := Int.tmod_lt_of_pos a (by omega)
  have t2 : -(n : Int) < a.tmod n := Int.lt_tmod_of_pos a (by omega)
  by_cases h : a.tmod n < 0
  · refine ⟨(a.tmod n + n).toNat, by omega, ?_⟩
    go_enter Tryd.func8, Tryd.ntmps8
    go_wp2
    go_ret
    refine ⟨congrArg Ending.returned (congrArg (Value.int IntKind.i64) ?_), rfl⟩
    first | omega | (simp only [wrap64]; omega)
  · refine ⟨(a.tmod n).toNat, by omega, ?_⟩
    go_enter Tryd.func8, Tryd.ntmps8
    go_wp2
    go_ret
    refine ⟨congrArg Ending.returned (congrArg (Value.int IntKind.i64) ?_), rfl⟩
    omega
end Go.Proofs.YtjdgejjpkjhdjaaDoor
