/-
  What the functions of package pack that only read return, and the document's answers: contracts, walked over the translated text. A packed array is '.agg #[.int .i64 n, .int .i64 d, .slice A ws.length c]', its words ws below 2^64 in memory. No condition but what each theorem names.
-/
import Derived.Test.YtmlekhgjnhnjlaaPop
import Derived.Test.YtmlekhgjnhnjlaaPacks
import Derived.Test.YtmlekhgjnhnjlaaMem
import Derived.Deep.QuietTactic
import Derived.BigQuiet
import Derived.IntWalk
namespace Go.Proofs.Ytmlekhgjnhnjlaa
open Go.RowKit Words

/-- pack.wordsFor. -/
theorem pwordsFor_any (n : Nat) (w : World) (hn : n ≤ 18600) :
    Calls Try.prog 18 #[.int .i64 n] w fun e w' => e = .returned (.int .i64 ((n + 63) / 64 : Nat)) ∧ w = w' := by
  go_enter Try.func18, Try.ntmps18
  go_wp2
  go_ret
  refine ⟨congrArg Ending.returned (congrArg (Value.int IntKind.i64) ?_), rfl⟩
  omega

end Go.Proofs.Ytmlekhgjnhnjlaa
