/-
  What the statements' comparisons of lists of numbers return where both are equal: contracts, walked over the translated text. No condition but what each theorem names.
-/
import Derived.Test.YtefgfkicacbmeaaPop
import Derived.Test.YtefgfkicacbmeaaMem
import Derived.Deep.QuietTactic
import Derived.BigQuiet
import Derived.IntWalk
namespace Go.Proofs.Ytefgfkicacbmeaa
open Go.RowKit Words

/-- Numbers that are not negative, as int. -/
def asInts (l : List Nat) : List Int := l.map fun n : Nat => (n : Int)
theorem asInts_length (l : List Nat) : (asInts l).length = l.length := by simp [asInts]
theorem asInts_map (l : List Nat) : (l.map fun n : Nat => Value.int .i64 (n : Int)) = (asInts l).map (.int .i64) := by unfold asInts; rw [List.map_map]; rfl


end Go.Proofs.Ytefgfkicacbmeaa
