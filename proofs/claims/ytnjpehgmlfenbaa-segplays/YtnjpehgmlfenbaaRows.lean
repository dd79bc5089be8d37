/-
  No cell of these rows narrows 'for every input' (looked for: loops, veiled, ifaces, maps, wideKeys, modest, calm, conditions, laid).
  DERIVED. THE GIVEN ROWS OF THIS SEAT. 4 by the template 'for every input the law returns true; each argument reads behind the call as it read before'; 0 by the template 'total and deterministic' (their statements: YtnjpehgmlfenbaaTotals.lean).
  GIVEN WITH THE SEED: the statements are not yours to turn. If you find one false, say at which input.
  Laid BY PROGRAM, IN A SANDBOX (cutbox-rows.mjs): the forced cells as the released guide's own fill.sh prints them over the translation 51cd855def24e901… (all of the seat's roots in one cut). By AI agents, Wed Nov 11 2026. No macro, syntax, notation, axiom, sorry.
-/
import Derived.Test.YtnjpehgmlfenbaaChecked
import GoSem.Claim
import GoSem.ClaimJoined
import GoSem.ClaimMapViews
import Derived.JoinedTies
import Derived.KernelRfl
namespace Go.Proofs.Ytnjpehgmlfenbaa
/- THE CELL 'sum', in the pinned program and in every row, IS THE sha256 OF THE DUMP (.gsa) THAT YtnjpehgmlfenbaaProg.lean LOADS. Nothing in Lean hashes anything: it is a label: what it is worth is what the hold of that sum in a sandbox is worth. -/
noncomputable def Try.pinned : Pinned := { name := "ytnjpehgmlfenbaa", sum := "51cd855def24e90145eb58e59ddfc304137943fe68cae604393791b435c839ea", checked := Try.checked }
namespace Rows
def none {H : Type} : Left H := { results := [], args := [] }

/-- 'damasklaw.SegPlays': WHATEVER THE INPUT: true; the input reads as it did. -/
def segPlaysSpec : ChangeSpec := { name := "segPlays", fn := fun _ => fun
  | [d1, d2] => { results := [.lit (.bool true)], args := [d1, d2] }
  | _ => none }
def segPlaysRow : OpenClaim := { program := "ytnjpehgmlfenbaa", sum := "51cd855def24e90145eb58e59ddfc304137943fe68cae604393791b435c839ea", func := "damask/damasklaw.SegPlays", spec := "segPlays", unfollowed := true, recurses := true, apart := false }
def SegPlaysSaid : Prop := segPlaysRow.holds Try.pinned (OpenSpec.ofChange segPlaysSpec)

/-- ITS FALSE NEIGHBOUR: 'it returns false'. Refute it at one input. -/
def segPlaysWrong : ChangeSpec := { name := "segPlays", fn := fun _ => fun
  | [d1, d2] => { results := [.lit (.bool false)], args := [d1, d2] }
  | _ => none }
def SegPlaysWrongFalsely : Prop := segPlaysRow.holds Try.pinned (OpenSpec.ofChange segPlaysWrong)

/-- 'damaskkeep.SegTold': WHATEVER THE INPUT: true; the input reads as it did. -/
def segToldSpec : ChangeSpec := { name := "segTold", fn := fun _ => fun
  | [d1, d2, d3, d4] => { results := [.lit (.bool true)], args := [d1, d2, d3, d4] }
  | _ => none }
def segToldRow : OpenClaim := { program := "ytnjpehgmlfenbaa", sum := "51cd855def24e90145eb58e59ddfc304137943fe68cae604393791b435c839ea", func := "damask/damaskkeep.SegTold", spec := "segTold", unfollowed := true, recurses := true, apart := false }
def SegToldSaid : Prop := segToldRow.holds Try.pinned (OpenSpec.ofChange segToldSpec)

/-- ITS FALSE NEIGHBOUR: 'it returns false'. Refute it at one input. -/
def segToldWrong : ChangeSpec := { name := "segTold", fn := fun _ => fun
  | [d1, d2, d3, d4] => { results := [.lit (.bool false)], args := [d1, d2, d3, d4] }
  | _ => none }
def SegToldWrongFalsely : Prop := segToldRow.holds Try.pinned (OpenSpec.ofChange segToldWrong)

/-- 'damaskkeep.SegSplit': WHATEVER THE INPUT: true; the input reads as it did. -/
def segSplitSpec : ChangeSpec := { name := "segSplit", fn := fun _ => fun
  | [d1, d2, d3, d4] => { results := [.lit (.bool true)], args := [d1, d2, d3, d4] }
  | _ => none }
def segSplitRow : OpenClaim := { program := "ytnjpehgmlfenbaa", sum := "51cd855def24e90145eb58e59ddfc304137943fe68cae604393791b435c839ea", func := "damask/damaskkeep.SegSplit", spec := "segSplit", unfollowed := true, recurses := true, apart := false }
def SegSplitSaid : Prop := segSplitRow.holds Try.pinned (OpenSpec.ofChange segSplitSpec)

/-- ITS FALSE NEIGHBOUR: 'it returns false'. Refute it at one input. -/
def segSplitWrong : ChangeSpec := { name := "segSplit", fn := fun _ => fun
  | [d1, d2, d3, d4] => { results := [.lit (.bool false)], args := [d1, d2, d3, d4] }
  | _ => none }
def SegSplitWrongFalsely : Prop := segSplitRow.holds Try.pinned (OpenSpec.ofChange segSplitWrong)

/-- 'damaskkeep.SegTurned': WHATEVER THE INPUT: true; the input reads as it did. -/
def segTurnedSpec : ChangeSpec := { name := "segTurned", fn := fun _ => fun
  | [d1, d2, d3] => { results := [.lit (.bool true)], args := [d1, d2, d3] }
  | _ => none }
def segTurnedRow : OpenClaim := { program := "ytnjpehgmlfenbaa", sum := "51cd855def24e90145eb58e59ddfc304137943fe68cae604393791b435c839ea", func := "damask/damaskkeep.SegTurned", spec := "segTurned", unfollowed := true, recurses := true, apart := false }
def SegTurnedSaid : Prop := segTurnedRow.holds Try.pinned (OpenSpec.ofChange segTurnedSpec)

/-- ITS FALSE NEIGHBOUR: 'it returns false'. Refute it at one input. -/
def segTurnedWrong : ChangeSpec := { name := "segTurned", fn := fun _ => fun
  | [d1, d2, d3] => { results := [.lit (.bool false)], args := [d1, d2, d3] }
  | _ => none }
def SegTurnedWrongFalsely : Prop := segTurnedRow.holds Try.pinned (OpenSpec.ofChange segTurnedWrong)

/- THE SECOND FORM. 'bulk': how many values and letters a reading holds, each counted each time it is reached (what is shared counts as often as it is met; a slice's spare places count too). A statement '..UptoSaid' is the law's where the arguments, and the package variables that the reading takes, are together of bulk at most 1048576: NARROWER than '..Said'. Prove '..Said' where nothing that the law and all that it calls make is longer than what came in: it says more and counts as full. Else prove '..UptoSaid'. A law counts once. -/
mutual
def uptoBulk {H : Type} : DataW H → Nat
  | .lit (.string bytes) => bytes.length + 1
  | .lit _ => 1
  | .nil => 1
  | .ptr d => uptoBulk d + 1
  | .slice elems spare => uptoBulkAll elems + uptoBulkAll spare + 1
  | .agg parts => uptoBulkAll parts + 1
  | .iface _ d => uptoBulk d + 1
  | .map entries => uptoBulkEntries entries + 1
  | .held _ => 1
def uptoBulkAll {H : Type} : List (DataW H) → Nat
  | [] => 0
  | d :: r => uptoBulk d + uptoBulkAll r
def uptoBulkEntries {H : Type} : List (Lit × DataW H) → Nat
  | [] => 0
  | x :: r => uptoBulkEntry x + uptoBulkEntries r
def uptoBulkEntry {H : Type} : Lit × DataW H → Nat
  | (.string bytes, d) => bytes.length + uptoBulk d + 1
  | (_, d) => uptoBulk d + 1
 end
def uptoSmall : (H : Type) → List (DataW H) → Bool := fun _ ds => decide (uptoBulkAll ds ≤ 1048576)
def OpenSpec.upto (s : _root_.Go.ChangeSpec) : _root_.Go.OpenSpec := { _root_.Go.OpenSpec.ofChange s with cond := some uptoSmall }

/-- 'damasklaw.SegPlays', WHERE WHAT IT READS IS OF BULK AT MOST 1048576: true; the input reads as it did. -/
def segPlaysUptoRow : OpenClaim := { program := "ytnjpehgmlfenbaa", sum := "51cd855def24e90145eb58e59ddfc304137943fe68cae604393791b435c839ea", func := "damask/damasklaw.SegPlays", spec := "segPlays", unfollowed := true, recurses := true, apart := false, narrowed := true }
def SegPlaysUptoSaid : Prop := segPlaysUptoRow.holds Try.pinned (OpenSpec.upto segPlaysSpec)

/-- 'damaskkeep.SegTold', WHERE WHAT IT READS IS OF BULK AT MOST 1048576: true; the input reads as it did. -/
def segToldUptoRow : OpenClaim := { program := "ytnjpehgmlfenbaa", sum := "51cd855def24e90145eb58e59ddfc304137943fe68cae604393791b435c839ea", func := "damask/damaskkeep.SegTold", spec := "segTold", unfollowed := true, recurses := true, apart := false, narrowed := true }
def SegToldUptoSaid : Prop := segToldUptoRow.holds Try.pinned (OpenSpec.upto segToldSpec)

/-- 'damaskkeep.SegSplit', WHERE WHAT IT READS IS OF BULK AT MOST 1048576: true; the input reads as it did. -/
def segSplitUptoRow : OpenClaim := { program := "ytnjpehgmlfenbaa", sum := "51cd855def24e90145eb58e59ddfc304137943fe68cae604393791b435c839ea", func := "damask/damaskkeep.SegSplit", spec := "segSplit", unfollowed := true, recurses := true, apart := false, narrowed := true }
def SegSplitUptoSaid : Prop := segSplitUptoRow.holds Try.pinned (OpenSpec.upto segSplitSpec)

/-- 'damaskkeep.SegTurned', WHERE WHAT IT READS IS OF BULK AT MOST 1048576: true; the input reads as it did. -/
def segTurnedUptoRow : OpenClaim := { program := "ytnjpehgmlfenbaa", sum := "51cd855def24e90145eb58e59ddfc304137943fe68cae604393791b435c839ea", func := "damask/damaskkeep.SegTurned", spec := "segTurned", unfollowed := true, recurses := true, apart := false, narrowed := true }
def SegTurnedUptoSaid : Prop := segTurnedUptoRow.holds Try.pinned (OpenSpec.upto segTurnedSpec)

end Rows
end Go.Proofs.Ytnjpehgmlfenbaa
