/-
  What the functions of package pop, and the document's answers to them, return: contracts, walked over the translated text. Words are natural numbers below 2^64; no other condition.
-/
import Derived.Test.YtelcnkmgdohigaaRows
import Derived.Test.YtelcnkmgdohigaaWords
import Derived.WalkKit
import Derived.WalkSpells
import Derived.WalkLawsBesides
import Derived.Lib.Hide
import Derived.OpenShut
namespace Go.Proofs.Ytelcnkmgdohigaa
open Go.RowKit Words

/-- An argument of type uint64 is a word. -/
theorem word_of {a : Int} (h : (Lit.int .u64 a).wf = true) : ∃ x : Nat, a = (x : Int) ∧ x < 18446744073709551616 := by
  have hb := bounds_u64 h
  exact ⟨a.toNat, by omega, by omega⟩

/-- The document's bit. -/
theorem bitOf_any (x i : Nat) (w : World) (hx : x < 18446744073709551616) (_h : i < 64) :
    Calls Try.prog 43 #[.int .u64 x, .int .i64 i] w fun e w' => e = .returned (.bool (x.testBit i)) ∧ w = w' := by
  have hb := bit_one x i hx
  go_enter Try.func43, Try.ntmps43
  go_wp2
  go_ret
  exact ⟨rfl, rfl⟩

end Go.Proofs.Ytelcnkmgdohigaa
