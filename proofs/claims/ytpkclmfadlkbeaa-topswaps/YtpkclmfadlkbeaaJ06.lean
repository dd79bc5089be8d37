/-
  The words of a slice of uint64 as values in memory. No condition but what each theorem names.
-/
import Derived.Test.YtpkclmfadlkbeaaRows
import Derived.Test.YtpkclmfadlkbeaaJ01
namespace Go.Proofs.Ytpkclmfadlkbeaa
open Go.RowKit

theorem word_info : (Try.prog.info? 110).map (fun i => (i.zero, i.size, i.bytes)) = some (some (.int .u64 0), 1, 8) := by kernel_rfl

/-- The words as values. -/
def asWords (ws : List Nat) : List Value := ws.map fun x : Nat => .int .u64 (x : Int)
end Go.Proofs.Ytpkclmfadlkbeaa
