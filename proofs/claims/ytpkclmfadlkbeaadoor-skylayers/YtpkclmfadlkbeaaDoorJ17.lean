/-
  What the document's isAbove and SkyUnder return: contracts, walked over the translated text. No condition but what each theorem names.
-/
import Derived.Test.YtpkclmfadlkbeaaDoorJ08
import Derived.Test.YtpkclmfadlkbeaaDoorJ07
namespace Go.Proofs.YtpkclmfadlkbeaaDoor
open Go.RowKit Go.Sort

set_option maxHeartbeats 1000000 in
/-- The document's isAbove. -/
theorem rabove_any (p q : Pt3) (w : World) : Calls Tryd.prog 15 #[p.val, q.val] w fun e w' => e = .returned (.bool (dom p q)) ∧ Below w.heap.size w w' := by
  obtain ⟨px, py, pw⟩ := p
  obtain ⟨qx, qy, qw⟩ := q
  unfold dom Pt3.val
  have HB := Lib.hid ((bnew w (.cells #[.int .i64 px, .int .i64 py, .int .i64 pw] 35)).alloc (by simp) (.cells #[.int .i64 qx, .int .i64 qy, .int .i64 qw] 35))
  rcases Int.lt_trichotomy qx px with h1 | h1 | h1 <;> rcases Int.lt_trichotomy qy py with h2 | h2 | h2
  all_goals
    have e : (decide (qx ≤ px) && decide (qy ≤ py) && (decide (qx < px) || decide (qy < py))) = decide ((qx ≤ px ∧ qy ≤ py) ∧ (qx < px ∨ qy < py)) := by simp
    first
      | rw [e, decide_eq_true (by omega)]
      | rw [e, decide_eq_false (by omega)]
    clear e
    try subst h1
    try subst h2
    go_enter Tryd.func15, Tryd.ntmps15
    go_wp2
    go_ret
    first
      | exact ⟨rfl, HB.out⟩
      | exact ⟨by simp; omega, HB.out⟩
end Go.Proofs.YtpkclmfadlkbeaaDoor
