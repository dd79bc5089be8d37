/-
  No cell of these rows narrows 'for every input' (looked for: loops, veiled, ifaces, maps, wideKeys, modest, calm, conditions, laid).
  DERIVED. THE GIVEN ROWS OF THIS SEAT. 12 by the template 'for every input the law returns true; each argument reads behind the call as it read before'; 0 by the template 'total and deterministic' (their statements: YtehmngecpipebaaTotals.lean).
  GIVEN WITH THE SEED: the statements are not yours to turn. If you find one false, say at which input.
  Laid BY PROGRAM, IN A SANDBOX (cutbox-rows.mjs): the forced cells as the released guide's own fill.sh prints them over the translation d6969f975d00f79c… (all of the seat's roots in one cut). By AI agents, Wed Nov 11 2026. No macro, syntax, notation, axiom, sorry.
-/
import Derived.Test.YtehmngecpipebaaChecked
import GoSem.Claim
import GoSem.ClaimJoined
import GoSem.ClaimMapViews
import Derived.JoinedTies
import Derived.KernelRfl
namespace Go.Proofs.Ytehmngecpipebaa
/- THE CELL 'sum', in the pinned program and in every row, IS THE sha256 OF THE DUMP (.gsa) THAT YtehmngecpipebaaProg.lean LOADS. Nothing in Lean hashes anything: it is a label: what it is worth is what the hold of that sum in a sandbox is worth. -/
noncomputable def Try.pinned : Pinned := { name := "ytehmngecpipebaa", sum := "d6969f975d00f79c9ece63e7b50f3a0c7601ef7ee834841901ebbca9f6759979", checked := Try.checked }
namespace Rows
def none {H : Type} : Left H := { results := [], args := [] }

/-- 'damasklaw.WaveMakes': WHATEVER THE INPUT: true; the input reads as it did. -/
def waveMakesSpec : ChangeSpec := { name := "waveMakes", fn := fun _ => fun
  | [d1, d2] => { results := [.lit (.bool true)], args := [d1, d2] }
  | _ => none }
def waveMakesRow : OpenClaim := { program := "ytehmngecpipebaa", sum := "d6969f975d00f79c9ece63e7b50f3a0c7601ef7ee834841901ebbca9f6759979", func := "damask/damasklaw.WaveMakes", spec := "waveMakes", inPlace := ["internal/reflectlite.ValueOf", "internal/reflectlite.Swapper", "(internal/reflectlite.Value).Len"], unfollowed := true, recurses := true, apart := false }
def WaveMakesSaid : Prop := waveMakesRow.holds Try.pinned (OpenSpec.ofChange waveMakesSpec)

/-- ITS FALSE NEIGHBOUR: 'it returns false'. Refute it at one input. -/
def waveMakesWrong : ChangeSpec := { name := "waveMakes", fn := fun _ => fun
  | [d1, d2] => { results := [.lit (.bool false)], args := [d1, d2] }
  | _ => none }
def WaveMakesWrongFalsely : Prop := waveMakesRow.holds Try.pinned (OpenSpec.ofChange waveMakesWrong)

/-- 'damasklaw.PermChecks': WHATEVER THE INPUT: true; the input reads as it did. -/
def permChecksSpec : ChangeSpec := { name := "permChecks", fn := fun _ => fun
  | [d] => { results := [.lit (.bool true)], args := [d] }
  | _ => none }
def permChecksRow : OpenClaim := { program := "ytehmngecpipebaa", sum := "d6969f975d00f79c9ece63e7b50f3a0c7601ef7ee834841901ebbca9f6759979", func := "damask/damasklaw.PermChecks", spec := "permChecks", recurses := true, apart := false }
def PermChecksSaid : Prop := permChecksRow.holds Try.pinned (OpenSpec.ofChange permChecksSpec)

/-- ITS FALSE NEIGHBOUR: 'it returns false'. Refute it at one input. -/
def permChecksWrong : ChangeSpec := { name := "permChecks", fn := fun _ => fun
  | [d] => { results := [.lit (.bool false)], args := [d] }
  | _ => none }
def PermChecksWrongFalsely : Prop := permChecksRow.holds Try.pinned (OpenSpec.ofChange permChecksWrong)

/-- 'damasklaw.PermInverses': WHATEVER THE INPUT: true; the input reads as it did. -/
def permInversesSpec : ChangeSpec := { name := "permInverses", fn := fun _ => fun
  | [d] => { results := [.lit (.bool true)], args := [d] }
  | _ => none }
def permInversesRow : OpenClaim := { program := "ytehmngecpipebaa", sum := "d6969f975d00f79c9ece63e7b50f3a0c7601ef7ee834841901ebbca9f6759979", func := "damask/damasklaw.PermInverses", spec := "permInverses", recurses := true, apart := false }
def PermInversesSaid : Prop := permInversesRow.holds Try.pinned (OpenSpec.ofChange permInversesSpec)

/-- ITS FALSE NEIGHBOUR: 'it returns false'. Refute it at one input. -/
def permInversesWrong : ChangeSpec := { name := "permInverses", fn := fun _ => fun
  | [d] => { results := [.lit (.bool false)], args := [d] }
  | _ => none }
def PermInversesWrongFalsely : Prop := permInversesRow.holds Try.pinned (OpenSpec.ofChange permInversesWrong)

/-- 'damasklaw.PermThens': WHATEVER THE INPUT: true; the input reads as it did. -/
def permThensSpec : ChangeSpec := { name := "permThens", fn := fun _ => fun
  | [d1, d2] => { results := [.lit (.bool true)], args := [d1, d2] }
  | _ => none }
def permThensRow : OpenClaim := { program := "ytehmngecpipebaa", sum := "d6969f975d00f79c9ece63e7b50f3a0c7601ef7ee834841901ebbca9f6759979", func := "damask/damasklaw.PermThens", spec := "permThens", recurses := true, apart := false }
def PermThensSaid : Prop := permThensRow.holds Try.pinned (OpenSpec.ofChange permThensSpec)

/-- ITS FALSE NEIGHBOUR: 'it returns false'. Refute it at one input. -/
def permThensWrong : ChangeSpec := { name := "permThens", fn := fun _ => fun
  | [d1, d2] => { results := [.lit (.bool false)], args := [d1, d2] }
  | _ => none }
def PermThensWrongFalsely : Prop := permThensRow.holds Try.pinned (OpenSpec.ofChange permThensWrong)

/-- 'damasklaw.PermCycles': WHATEVER THE INPUT: true; the input reads as it did. -/
def permCyclesSpec : ChangeSpec := { name := "permCycles", fn := fun _ => fun
  | [d] => { results := [.lit (.bool true)], args := [d] }
  | _ => none }
def permCyclesRow : OpenClaim := { program := "ytehmngecpipebaa", sum := "d6969f975d00f79c9ece63e7b50f3a0c7601ef7ee834841901ebbca9f6759979", func := "damask/damasklaw.PermCycles", spec := "permCycles", recurses := true, apart := false }
def PermCyclesSaid : Prop := permCyclesRow.holds Try.pinned (OpenSpec.ofChange permCyclesSpec)

/-- ITS FALSE NEIGHBOUR: 'it returns false'. Refute it at one input. -/
def permCyclesWrong : ChangeSpec := { name := "permCycles", fn := fun _ => fun
  | [d] => { results := [.lit (.bool false)], args := [d] }
  | _ => none }
def PermCyclesWrongFalsely : Prop := permCyclesRow.holds Try.pinned (OpenSpec.ofChange permCyclesWrong)

/-- 'damasklaw.PermSwaps': WHATEVER THE INPUT: true; the input reads as it did. -/
def permSwapsSpec : ChangeSpec := { name := "permSwaps", fn := fun _ => fun
  | [d] => { results := [.lit (.bool true)], args := [d] }
  | _ => none }
def permSwapsRow : OpenClaim := { program := "ytehmngecpipebaa", sum := "d6969f975d00f79c9ece63e7b50f3a0c7601ef7ee834841901ebbca9f6759979", func := "damask/damasklaw.PermSwaps", spec := "permSwaps", recurses := true, apart := false }
def PermSwapsSaid : Prop := permSwapsRow.holds Try.pinned (OpenSpec.ofChange permSwapsSpec)

/-- ITS FALSE NEIGHBOUR: 'it returns false'. Refute it at one input. -/
def permSwapsWrong : ChangeSpec := { name := "permSwaps", fn := fun _ => fun
  | [d] => { results := [.lit (.bool false)], args := [d] }
  | _ => none }
def PermSwapsWrongFalsely : Prop := permSwapsRow.holds Try.pinned (OpenSpec.ofChange permSwapsWrong)

/-- 'damasklaw.PermNumbers': WHATEVER THE INPUT: true; the input reads as it did. -/
def permNumbersSpec : ChangeSpec := { name := "permNumbers", fn := fun _ => fun
  | [d] => { results := [.lit (.bool true)], args := [d] }
  | _ => none }
def permNumbersRow : OpenClaim := { program := "ytehmngecpipebaa", sum := "d6969f975d00f79c9ece63e7b50f3a0c7601ef7ee834841901ebbca9f6759979", func := "damask/damasklaw.PermNumbers", spec := "permNumbers", recurses := true, apart := false }
def PermNumbersSaid : Prop := permNumbersRow.holds Try.pinned (OpenSpec.ofChange permNumbersSpec)

/-- ITS FALSE NEIGHBOUR: 'it returns false'. Refute it at one input. -/
def permNumbersWrong : ChangeSpec := { name := "permNumbers", fn := fun _ => fun
  | [d] => { results := [.lit (.bool false)], args := [d] }
  | _ => none }
def PermNumbersWrongFalsely : Prop := permNumbersRow.holds Try.pinned (OpenSpec.ofChange permNumbersWrong)

/-- 'damasklaw.PermOrders': WHATEVER THE INPUT: true; the input reads as it did. -/
def permOrdersSpec : ChangeSpec := { name := "permOrders", fn := fun _ => fun
  | [d1, d2] => { results := [.lit (.bool true)], args := [d1, d2] }
  | _ => none }
def permOrdersRow : OpenClaim := { program := "ytehmngecpipebaa", sum := "d6969f975d00f79c9ece63e7b50f3a0c7601ef7ee834841901ebbca9f6759979", func := "damask/damasklaw.PermOrders", spec := "permOrders", recurses := true, apart := false }
def PermOrdersSaid : Prop := permOrdersRow.holds Try.pinned (OpenSpec.ofChange permOrdersSpec)

/-- ITS FALSE NEIGHBOUR: 'it returns false'. Refute it at one input. -/
def permOrdersWrong : ChangeSpec := { name := "permOrders", fn := fun _ => fun
  | [d1, d2] => { results := [.lit (.bool false)], args := [d1, d2] }
  | _ => none }
def PermOrdersWrongFalsely : Prop := permOrdersRow.holds Try.pinned (OpenSpec.ofChange permOrdersWrong)

/-- 'damaskkeep.PermGroup': WHATEVER THE INPUT: true; the input reads as it did. -/
def permGroupSpec : ChangeSpec := { name := "permGroup", fn := fun _ => fun
  | [d1, d2, d3, d4] => { results := [.lit (.bool true)], args := [d1, d2, d3, d4] }
  | _ => none }
def permGroupRow : OpenClaim := { program := "ytehmngecpipebaa", sum := "d6969f975d00f79c9ece63e7b50f3a0c7601ef7ee834841901ebbca9f6759979", func := "damask/damaskkeep.PermGroup", spec := "permGroup", apart := false }
def PermGroupSaid : Prop := permGroupRow.holds Try.pinned (OpenSpec.ofChange permGroupSpec)

/-- ITS FALSE NEIGHBOUR: 'it returns false'. Refute it at one input. -/
def permGroupWrong : ChangeSpec := { name := "permGroup", fn := fun _ => fun
  | [d1, d2, d3, d4] => { results := [.lit (.bool false)], args := [d1, d2, d3, d4] }
  | _ => none }
def PermGroupWrongFalsely : Prop := permGroupRow.holds Try.pinned (OpenSpec.ofChange permGroupWrong)

/-- 'damaskkeep.PermSign': WHATEVER THE INPUT: true; the input reads as it did. -/
def permSignSpec : ChangeSpec := { name := "permSign", fn := fun _ => fun
  | [d1, d2, d3] => { results := [.lit (.bool true)], args := [d1, d2, d3] }
  | _ => none }
def permSignRow : OpenClaim := { program := "ytehmngecpipebaa", sum := "d6969f975d00f79c9ece63e7b50f3a0c7601ef7ee834841901ebbca9f6759979", func := "damask/damaskkeep.PermSign", spec := "permSign", apart := false }
def PermSignSaid : Prop := permSignRow.holds Try.pinned (OpenSpec.ofChange permSignSpec)

/-- ITS FALSE NEIGHBOUR: 'it returns false'. Refute it at one input. -/
def permSignWrong : ChangeSpec := { name := "permSign", fn := fun _ => fun
  | [d1, d2, d3] => { results := [.lit (.bool false)], args := [d1, d2, d3] }
  | _ => none }
def PermSignWrongFalsely : Prop := permSignRow.holds Try.pinned (OpenSpec.ofChange permSignWrong)

/-- 'damaskkeep.PermRounds': WHATEVER THE INPUT: true; the input reads as it did. -/
def permRoundsSpec : ChangeSpec := { name := "permRounds", fn := fun _ => fun
  | [d1, d2, d3] => { results := [.lit (.bool true)], args := [d1, d2, d3] }
  | _ => none }
def permRoundsRow : OpenClaim := { program := "ytehmngecpipebaa", sum := "d6969f975d00f79c9ece63e7b50f3a0c7601ef7ee834841901ebbca9f6759979", func := "damask/damaskkeep.PermRounds", spec := "permRounds", apart := false }
def PermRoundsSaid : Prop := permRoundsRow.holds Try.pinned (OpenSpec.ofChange permRoundsSpec)

/-- ITS FALSE NEIGHBOUR: 'it returns false'. Refute it at one input. -/
def permRoundsWrong : ChangeSpec := { name := "permRounds", fn := fun _ => fun
  | [d1, d2, d3] => { results := [.lit (.bool false)], args := [d1, d2, d3] }
  | _ => none }
def PermRoundsWrongFalsely : Prop := permRoundsRow.holds Try.pinned (OpenSpec.ofChange permRoundsWrong)

/-- 'damaskkeep.PermCounted': WHATEVER THE INPUT: true; the input reads as it did. -/
def permCountedSpec : ChangeSpec := { name := "permCounted", fn := fun _ => fun
  | [d1, d2, d3, d4] => { results := [.lit (.bool true)], args := [d1, d2, d3, d4] }
  | _ => none }
def permCountedRow : OpenClaim := { program := "ytehmngecpipebaa", sum := "d6969f975d00f79c9ece63e7b50f3a0c7601ef7ee834841901ebbca9f6759979", func := "damask/damaskkeep.PermCounted", spec := "permCounted", apart := false }
def PermCountedSaid : Prop := permCountedRow.holds Try.pinned (OpenSpec.ofChange permCountedSpec)

/-- ITS FALSE NEIGHBOUR: 'it returns false'. Refute it at one input. -/
def permCountedWrong : ChangeSpec := { name := "permCounted", fn := fun _ => fun
  | [d1, d2, d3, d4] => { results := [.lit (.bool false)], args := [d1, d2, d3, d4] }
  | _ => none }
def PermCountedWrongFalsely : Prop := permCountedRow.holds Try.pinned (OpenSpec.ofChange permCountedWrong)

/- THE SECOND FORM. 'bulk': how many values and letters a reading holds, each counted each time it is reached (what is shared counts as often as it is met; a slice's spare places count too). A statement '..UptoSaid' is the law's where the arguments, and the package variables that the reading takes, are together of bulk at most 1048576: NARROWER than '..Said'. Prove '..Said' where nothing that the law and all that it calls make is longer than what came in: it says more and counts as full. Else prove '..UptoSaid'. A law counts once. -/
mutual
def uptoBulk {H : Type} : DataW H → Nat
  | .lit (.string bytes) => bytes.length + 1
  | .lit _ => 1
  | .nil => 1
  | .ptr d => uptoBulk d + 1
  | .slice elems spare => uptoBulkAll elems + uptoBulkAll spare + 1
  | .agg parts => uptoBulkAll parts + 1
  | .iface _ d => uptoBulk d + 1
  | .map entries => uptoBulkEntries entries + 1
  | .held _ => 1
def uptoBulkAll {H : Type} : List (DataW H) → Nat
  | [] => 0
  | d :: r => uptoBulk d + uptoBulkAll r
def uptoBulkEntries {H : Type} : List (Lit × DataW H) → Nat
  | [] => 0
  | x :: r => uptoBulkEntry x + uptoBulkEntries r
def uptoBulkEntry {H : Type} : Lit × DataW H → Nat
  | (.string bytes, d) => bytes.length + uptoBulk d + 1
  | (_, d) => uptoBulk d + 1
 end
def uptoSmall : (H : Type) → List (DataW H) → Bool := fun _ ds => decide (uptoBulkAll ds ≤ 1048576)
def OpenSpec.upto (s : _root_.Go.ChangeSpec) : _root_.Go.OpenSpec := { _root_.Go.OpenSpec.ofChange s with cond := some uptoSmall }

/-- 'damasklaw.WaveMakes', WHERE WHAT IT READS IS OF BULK AT MOST 1048576: true; the input reads as it did. -/
def waveMakesUptoRow : OpenClaim := { program := "ytehmngecpipebaa", sum := "d6969f975d00f79c9ece63e7b50f3a0c7601ef7ee834841901ebbca9f6759979", func := "damask/damasklaw.WaveMakes", spec := "waveMakes", inPlace := ["internal/reflectlite.ValueOf", "internal/reflectlite.Swapper", "(internal/reflectlite.Value).Len"], unfollowed := true, recurses := true, apart := false, narrowed := true }
def WaveMakesUptoSaid : Prop := waveMakesUptoRow.holds Try.pinned (OpenSpec.upto waveMakesSpec)

/-- 'damasklaw.PermChecks', WHERE WHAT IT READS IS OF BULK AT MOST 1048576: true; the input reads as it did. -/
def permChecksUptoRow : OpenClaim := { program := "ytehmngecpipebaa", sum := "d6969f975d00f79c9ece63e7b50f3a0c7601ef7ee834841901ebbca9f6759979", func := "damask/damasklaw.PermChecks", spec := "permChecks", recurses := true, apart := false, narrowed := true }
def PermChecksUptoSaid : Prop := permChecksUptoRow.holds Try.pinned (OpenSpec.upto permChecksSpec)

/-- 'damasklaw.PermInverses', WHERE WHAT IT READS IS OF BULK AT MOST 1048576: true; the input reads as it did. -/
def permInversesUptoRow : OpenClaim := { program := "ytehmngecpipebaa", sum := "d6969f975d00f79c9ece63e7b50f3a0c7601ef7ee834841901ebbca9f6759979", func := "damask/damasklaw.PermInverses", spec := "permInverses", recurses := true, apart := false, narrowed := true }
def PermInversesUptoSaid : Prop := permInversesUptoRow.holds Try.pinned (OpenSpec.upto permInversesSpec)

/-- 'damasklaw.PermThens', WHERE WHAT IT READS IS OF BULK AT MOST 1048576: true; the input reads as it did. -/
def permThensUptoRow : OpenClaim := { program := "ytehmngecpipebaa", sum := "d6969f975d00f79c9ece63e7b50f3a0c7601ef7ee834841901ebbca9f6759979", func := "damask/damasklaw.PermThens", spec := "permThens", recurses := true, apart := false, narrowed := true }
def PermThensUptoSaid : Prop := permThensUptoRow.holds Try.pinned (OpenSpec.upto permThensSpec)

/-- 'damasklaw.PermCycles', WHERE WHAT IT READS IS OF BULK AT MOST 1048576: true; the input reads as it did. -/
def permCyclesUptoRow : OpenClaim := { program := "ytehmngecpipebaa", sum := "d6969f975d00f79c9ece63e7b50f3a0c7601ef7ee834841901ebbca9f6759979", func := "damask/damasklaw.PermCycles", spec := "permCycles", recurses := true, apart := false, narrowed := true }
def PermCyclesUptoSaid : Prop := permCyclesUptoRow.holds Try.pinned (OpenSpec.upto permCyclesSpec)

/-- 'damasklaw.PermSwaps', WHERE WHAT IT READS IS OF BULK AT MOST 1048576: true; the input reads as it did. -/
def permSwapsUptoRow : OpenClaim := { program := "ytehmngecpipebaa", sum := "d6969f975d00f79c9ece63e7b50f3a0c7601ef7ee834841901ebbca9f6759979", func := "damask/damasklaw.PermSwaps", spec := "permSwaps", recurses := true, apart := false, narrowed := true }
def PermSwapsUptoSaid : Prop := permSwapsUptoRow.holds Try.pinned (OpenSpec.upto permSwapsSpec)

/-- 'damasklaw.PermNumbers', WHERE WHAT IT READS IS OF BULK AT MOST 1048576: true; the input reads as it did. -/
def permNumbersUptoRow : OpenClaim := { program := "ytehmngecpipebaa", sum := "d6969f975d00f79c9ece63e7b50f3a0c7601ef7ee834841901ebbca9f6759979", func := "damask/damasklaw.PermNumbers", spec := "permNumbers", recurses := true, apart := false, narrowed := true }
def PermNumbersUptoSaid : Prop := permNumbersUptoRow.holds Try.pinned (OpenSpec.upto permNumbersSpec)

/-- 'damasklaw.PermOrders', WHERE WHAT IT READS IS OF BULK AT MOST 1048576: true; the input reads as it did. -/
def permOrdersUptoRow : OpenClaim := { program := "ytehmngecpipebaa", sum := "d6969f975d00f79c9ece63e7b50f3a0c7601ef7ee834841901ebbca9f6759979", func := "damask/damasklaw.PermOrders", spec := "permOrders", recurses := true, apart := false, narrowed := true }
def PermOrdersUptoSaid : Prop := permOrdersUptoRow.holds Try.pinned (OpenSpec.upto permOrdersSpec)

/-- 'damaskkeep.PermGroup', WHERE WHAT IT READS IS OF BULK AT MOST 1048576: true; the input reads as it did. -/
def permGroupUptoRow : OpenClaim := { program := "ytehmngecpipebaa", sum := "d6969f975d00f79c9ece63e7b50f3a0c7601ef7ee834841901ebbca9f6759979", func := "damask/damaskkeep.PermGroup", spec := "permGroup", apart := false, narrowed := true }
def PermGroupUptoSaid : Prop := permGroupUptoRow.holds Try.pinned (OpenSpec.upto permGroupSpec)

/-- 'damaskkeep.PermSign', WHERE WHAT IT READS IS OF BULK AT MOST 1048576: true; the input reads as it did. -/
def permSignUptoRow : OpenClaim := { program := "ytehmngecpipebaa", sum := "d6969f975d00f79c9ece63e7b50f3a0c7601ef7ee834841901ebbca9f6759979", func := "damask/damaskkeep.PermSign", spec := "permSign", apart := false, narrowed := true }
def PermSignUptoSaid : Prop := permSignUptoRow.holds Try.pinned (OpenSpec.upto permSignSpec)

/-- 'damaskkeep.PermRounds', WHERE WHAT IT READS IS OF BULK AT MOST 1048576: true; the input reads as it did. -/
def permRoundsUptoRow : OpenClaim := { program := "ytehmngecpipebaa", sum := "d6969f975d00f79c9ece63e7b50f3a0c7601ef7ee834841901ebbca9f6759979", func := "damask/damaskkeep.PermRounds", spec := "permRounds", apart := false, narrowed := true }
def PermRoundsUptoSaid : Prop := permRoundsUptoRow.holds Try.pinned (OpenSpec.upto permRoundsSpec)

/-- 'damaskkeep.PermCounted', WHERE WHAT IT READS IS OF BULK AT MOST 1048576: true; the input reads as it did. -/
def permCountedUptoRow : OpenClaim := { program := "ytehmngecpipebaa", sum := "d6969f975d00f79c9ece63e7b50f3a0c7601ef7ee834841901ebbca9f6759979", func := "damask/damaskkeep.PermCounted", spec := "permCounted", apart := false, narrowed := true }
def PermCountedUptoSaid : Prop := permCountedUptoRow.holds Try.pinned (OpenSpec.upto permCountedSpec)

end Rows
end Go.Proofs.Ytehmngecpipebaa
