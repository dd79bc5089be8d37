/-
  What bits.At and bits.Rank return: contracts, walked over the translated text. A vector is '.agg #[.int .i64 n, .slice A ws.length c]', its words ws below 2^64 in memory. No condition but what each theorem names.
-/
import Derived.Test.YtmlekhgjnhnjlaaDoorBits
namespace Go.Proofs.YtmlekhgjnhnjlaaDoor
open Go.RowKit Words


end Go.Proofs.YtmlekhgjnhnjlaaDoor
