/-
  What fen.Make, fen.Add and fen.Sum return: contracts, walked over the translated text. No condition but what each theorem names.
-/
import Derived.Test.YtnjpehgmlfenbaaFenMk
namespace Go.Proofs.Ytnjpehgmlfenbaa
open Go.RowKit Words


/-- What an increase by d at index p makes of a tree. -/
def added (t : Nat → Int) (p : Nat) (d : Int) (j : Nat) : Int := t j + if Cov p j then d else 0
theorem went_bound (t : Nat → Int) (p q : Nat) (d : Int) (j : Nat) (B : Int) (h : -B ≤ t j ∧ t j ≤ B) (hd : In 1048576 d) : -(B + 1048576) ≤ went t p q d j ∧ went t p q d j ≤ B + 1048576 := by
  unfold went
  have hd' : -1048576 ≤ d ∧ d ≤ 1048576 := hd
  by_cases e : Cov p j ∧ ¬ Cov q j
  · rw [if_pos e]; omega
  · rw [if_neg e]; omega


/-- A number and OK; 0 and an error. -/
def Tells8 (w : World) (x r : Int) (e : Ending) (w' : World) : Prop := e = .returned (.tuple #[.int .i64 x, .int .i64 r]) ∧ Below w.heap.size w w'

end Go.Proofs.Ytnjpehgmlfenbaa
