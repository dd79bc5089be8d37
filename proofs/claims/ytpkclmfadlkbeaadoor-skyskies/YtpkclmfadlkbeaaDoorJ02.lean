/-
  What the functions of package pop, and the document's answers to them, return: contracts, walked over the translated text. Words are natural numbers below 2^64; no other condition. What the program knows of int. No condition but what each theorem names.
-/
import Derived.Test.YtpkclmfadlkbeaaDoorRows
import Derived.Test.YtpkclmfadlkbeaaDoorJ01
import Derived.WalkKit
import Derived.WalkSpells
import Derived.WalkLawsBesides
import Derived.Lib.Hide
import Derived.OpenShut
namespace Go.Proofs.YtpkclmfadlkbeaaDoor
open Go.RowKit Words

/-- An argument of type uint64 is a word. -/
theorem word_of {a : Int} (h : (Lit.int .u64 a).wf = true) : ∃ x : Nat, a = (x : Int) ∧ x < 18446744073709551616 := by
  have hb := bounds_u64 h
  exact ⟨a.toNat, by omega, by omega⟩

end Go.Proofs.YtpkclmfadlkbeaaDoor

namespace Go.Proofs.YtpkclmfadlkbeaaDoor
open Go.RowKit

theorem wint_info : (Tryd.prog.info? 3).map (fun i => (i.zero, i.size, i.bytes)) = some (some (.int .i64 0), 1, 8) := by kernel_rfl
end Go.Proofs.YtpkclmfadlkbeaaDoor
