/-
  What the functions of package pop, and the document's answers to them, return: contracts, walked over the translated text. Words are natural numbers below 2^64; no other condition. What the program knows of int. No condition but what each theorem names.
-/
import Derived.Test.YtpkclmfadlkbeaaRows
import Derived.Test.YtpkclmfadlkbeaaJ01
import Derived.WalkKit
import Derived.WalkSpells
import Derived.WalkLawsBesides
import Derived.Lib.Hide
import Derived.OpenShut
namespace Go.Proofs.Ytpkclmfadlkbeaa
open Go.RowKit Words

/-- An argument of type uint64 is a word. -/
theorem word_of {a : Int} (h : (Lit.int .u64 a).wf = true) : ∃ x : Nat, a = (x : Int) ∧ x < 18446744073709551616 := by
  have hb := bounds_u64 h
  exact ⟨a.toNat, by omega, by omega⟩

set_option maxHeartbeats 400000 in
theorem oc_core (x y1 y2 y3 y4 y5 y6 n : Nat) (w : World)
    (k1 : IntKind.u64.wrap (bits BinOp.and IntKind.u64 ((x : Int) / 2) 6148914691236517205 + bits BinOp.and IntKind.u64 (x : Int) 6148914691236517205) = (y1 : Int))
    (k2 : IntKind.u64.wrap (bits BinOp.and IntKind.u64 ((y1 : Int) / 4) 3689348814741910323 + bits BinOp.and IntKind.u64 (y1 : Int) 3689348814741910323) = (y2 : Int))
    (k3 : bits BinOp.and IntKind.u64 (IntKind.u64.wrap ((y2 : Int) / 16 + (y2 : Int))) 1085102592571150095 = (y3 : Int))
    (k4 : IntKind.u64.wrap ((y3 : Int) + (y3 : Int) / 256) = (y4 : Int))
    (k5 : IntKind.u64.wrap ((y4 : Int) + (y4 : Int) / 65536) = (y5 : Int))
    (k6 : IntKind.u64.wrap ((y5 : Int) + (y5 : Int) / 4294967296) = (y6 : Int))
    (k7 : bits BinOp.and IntKind.i64 (wrap64 (y6 : Int)) 127 = (n : Int)) :
    Calls Try.prog 90 #[.int .u64 x] w fun e w' => e = .returned (.int .i64 n) ∧ w = w' := by
  go_enter Try.func90, Try.ntmps90
  go_wp2
  go_ret
  exact ⟨rfl, rfl⟩

theorem oc_any (x : Nat) (w : World) (hx : x < 18446744073709551616) :
    Calls Try.prog 90 #[.int .u64 x] w fun e w' => e = .returned (.int .i64 (cnt x 64)) ∧ w = w' := by
  obtain ⟨y1, y2, y3, y4, y5, y6, k1, k2, k3, k4, k5, k6, k7⟩ := ones_steps x hx
  exact oc_core x y1 y2 y3 y4 y5 y6 _ w k1 k2 k3 k4 k5 k6 k7

/-- pop.Ones. -/
theorem ones_any (x : Nat) (w : World) (hx : x < 18446744073709551616) :
    Calls Try.prog 85 #[.int .u64 x] w fun e w' => e = .returned (.int .i64 (cnt x 64)) ∧ w = w' := by
  go_enter Try.func85, Try.ntmps85
  go_wp2_with (go_at_call 90; refine (oc_any x _ hx).mono ?_; rintro e w' ⟨rfl, rfl⟩)
  go_ret
  exact ⟨rfl, rfl⟩

end Go.Proofs.Ytpkclmfadlkbeaa

namespace Go.Proofs.Ytpkclmfadlkbeaa
open Go.RowKit

theorem wint_info : (Try.prog.info? 3).map (fun i => (i.zero, i.size, i.bytes)) = some (some (.int .i64 0), 1, 8) := by kernel_rfl
end Go.Proofs.Ytpkclmfadlkbeaa
