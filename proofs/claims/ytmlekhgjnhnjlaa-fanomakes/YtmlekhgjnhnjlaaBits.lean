/-
  What the functions of package bits that only read return: contracts, walked over the translated text. A vector is '.agg #[.int .i64 n, .slice A ws.length c]', its words ws below 2^64 in memory. No condition but what each theorem names.
-/
import Derived.Test.YtmlekhgjnhnjlaaPop
import Derived.Test.YtmlekhgjnhnjlaaRow
import Derived.Test.YtmlekhgjnhnjlaaMem
import Derived.Deep.QuietTactic
import Derived.BigQuiet
import Derived.IntWalk
namespace Go.Proofs.Ytmlekhgjnhnjlaa
open Go.RowKit Words

/-- bits.wordsFor. -/
theorem wordsFor_any (n : Nat) (w : World) (hn : n ≤ 4096) :
    Calls Try.prog 21 #[.int .i64 n] w fun e w' => e = .returned (.int .i64 ((n + 63) / 64 : Nat)) ∧ w = w' := by
  go_enter Try.func21, Try.ntmps21
  go_wp2
  go_ret
  refine ⟨congrArg Ending.returned (congrArg (Value.int IntKind.i64) ?_), rfl⟩
  omega



end Go.Proofs.Ytmlekhgjnhnjlaa
