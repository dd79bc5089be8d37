/-
  No cell of these rows narrows 'for every input' (looked for: loops, veiled, ifaces, maps, wideKeys, modest, calm, conditions, laid).
  DERIVED. THE GIVEN ROWS OF THIS SEAT. 8 by the template 'for every input the law returns true; each argument reads behind the call as it read before'; 0 by the template 'total and deterministic' (their statements: YthmfcdefdbeefaaTotals.lean).
  GIVEN WITH THE SEED: the statements are not yours to turn. If you find one false, say at which input.
  Laid BY PROGRAM, IN A SANDBOX (cutbox-rows.mjs): the forced cells as the released guide's own fill.sh prints them over the translation 7d9d0acb5b642dd5… (all of the seat's roots in one cut). By AI agents, Wed Nov 11 2026. No macro, syntax, notation, axiom, sorry.
-/
import Derived.Test.YthmfcdefdbeefaaChecked
import GoSem.Claim
import GoSem.ClaimJoined
import GoSem.ClaimMapViews
import Derived.JoinedTies
import Derived.KernelRfl
namespace Go.Proofs.Ythmfcdefdbeefaa
/- THE CELL 'sum', in the pinned program and in every row, IS THE sha256 OF THE DUMP (.gsa) THAT YthmfcdefdbeefaaProg.lean LOADS. Nothing in Lean hashes anything: it is a label: what it is worth is what the hold of that sum in a sandbox is worth. -/
noncomputable def Try.pinned : Pinned := { name := "ythmfcdefdbeefaa", sum := "7d9d0acb5b642dd54b73d8d1cdd307b97a0be6aa6026fbf01f34f70b413c3e29", checked := Try.checked }
namespace Rows
def none {H : Type} : Left H := { results := [], args := [] }

/-- 'damasklaw.GridChecks': WHATEVER THE INPUT: true; the input reads as it did. -/
def gridChecksSpec : ChangeSpec := { name := "gridChecks", fn := fun _ => fun
  | [d] => { results := [.lit (.bool true)], args := [d] }
  | _ => none }
def gridChecksRow : OpenClaim := { program := "ythmfcdefdbeefaa", sum := "7d9d0acb5b642dd54b73d8d1cdd307b97a0be6aa6026fbf01f34f70b413c3e29", func := "damask/damasklaw.GridChecks", spec := "gridChecks", apart := false }
def GridChecksSaid : Prop := gridChecksRow.holds Try.pinned (OpenSpec.ofChange gridChecksSpec)

/-- ITS FALSE NEIGHBOUR: 'it returns false'. Refute it at one input. -/
def gridChecksWrong : ChangeSpec := { name := "gridChecks", fn := fun _ => fun
  | [d] => { results := [.lit (.bool false)], args := [d] }
  | _ => none }
def GridChecksWrongFalsely : Prop := gridChecksRow.holds Try.pinned (OpenSpec.ofChange gridChecksWrong)

/-- 'damasklaw.GridCounts': WHATEVER THE INPUT: true; the input reads as it did. -/
def gridCountsSpec : ChangeSpec := { name := "gridCounts", fn := fun _ => fun
  | [d1, d2] => { results := [.lit (.bool true)], args := [d1, d2] }
  | _ => none }
def gridCountsRow : OpenClaim := { program := "ythmfcdefdbeefaa", sum := "7d9d0acb5b642dd54b73d8d1cdd307b97a0be6aa6026fbf01f34f70b413c3e29", func := "damask/damasklaw.GridCounts", spec := "gridCounts", inPlace := ["internal/reflectlite.ValueOf", "internal/reflectlite.Swapper", "(internal/reflectlite.Value).Len"], unfollowed := true, recurses := true, apart := false }
def GridCountsSaid : Prop := gridCountsRow.holds Try.pinned (OpenSpec.ofChange gridCountsSpec)

/-- ITS FALSE NEIGHBOUR: 'it returns false'. Refute it at one input. -/
def gridCountsWrong : ChangeSpec := { name := "gridCounts", fn := fun _ => fun
  | [d1, d2] => { results := [.lit (.bool false)], args := [d1, d2] }
  | _ => none }
def GridCountsWrongFalsely : Prop := gridCountsRow.holds Try.pinned (OpenSpec.ofChange gridCountsWrong)

/-- 'damasklaw.GridReports': WHATEVER THE INPUT: true; the input reads as it did. -/
def gridReportsSpec : ChangeSpec := { name := "gridReports", fn := fun _ => fun
  | [d1, d2] => { results := [.lit (.bool true)], args := [d1, d2] }
  | _ => none }
def gridReportsRow : OpenClaim := { program := "ythmfcdefdbeefaa", sum := "7d9d0acb5b642dd54b73d8d1cdd307b97a0be6aa6026fbf01f34f70b413c3e29", func := "damask/damasklaw.GridReports", spec := "gridReports", inPlace := ["internal/reflectlite.ValueOf", "internal/reflectlite.Swapper", "(internal/reflectlite.Value).Len"], unfollowed := true, recurses := true, apart := false }
def GridReportsSaid : Prop := gridReportsRow.holds Try.pinned (OpenSpec.ofChange gridReportsSpec)

/-- ITS FALSE NEIGHBOUR: 'it returns false'. Refute it at one input. -/
def gridReportsWrong : ChangeSpec := { name := "gridReports", fn := fun _ => fun
  | [d1, d2] => { results := [.lit (.bool false)], args := [d1, d2] }
  | _ => none }
def GridReportsWrongFalsely : Prop := gridReportsRow.holds Try.pinned (OpenSpec.ofChange gridReportsWrong)

/-- 'damasklaw.GridKths': WHATEVER THE INPUT: true; the input reads as it did. -/
def gridKthsSpec : ChangeSpec := { name := "gridKths", fn := fun _ => fun
  | [d1, d2, d3] => { results := [.lit (.bool true)], args := [d1, d2, d3] }
  | _ => none }
def gridKthsRow : OpenClaim := { program := "ythmfcdefdbeefaa", sum := "7d9d0acb5b642dd54b73d8d1cdd307b97a0be6aa6026fbf01f34f70b413c3e29", func := "damask/damasklaw.GridKths", spec := "gridKths", inPlace := ["internal/reflectlite.ValueOf", "internal/reflectlite.Swapper", "(internal/reflectlite.Value).Len"], unfollowed := true, recurses := true, apart := false }
def GridKthsSaid : Prop := gridKthsRow.holds Try.pinned (OpenSpec.ofChange gridKthsSpec)

/-- ITS FALSE NEIGHBOUR: 'it returns false'. Refute it at one input. -/
def gridKthsWrong : ChangeSpec := { name := "gridKths", fn := fun _ => fun
  | [d1, d2, d3] => { results := [.lit (.bool false)], args := [d1, d2, d3] }
  | _ => none }
def GridKthsWrongFalsely : Prop := gridKthsRow.holds Try.pinned (OpenSpec.ofChange gridKthsWrong)

/-- 'damasklaw.GridTops': WHATEVER THE INPUT: true; the input reads as it did. -/
def gridTopsSpec : ChangeSpec := { name := "gridTops", fn := fun _ => fun
  | [d1, d2, d3] => { results := [.lit (.bool true)], args := [d1, d2, d3] }
  | _ => none }
def gridTopsRow : OpenClaim := { program := "ythmfcdefdbeefaa", sum := "7d9d0acb5b642dd54b73d8d1cdd307b97a0be6aa6026fbf01f34f70b413c3e29", func := "damask/damasklaw.GridTops", spec := "gridTops", inPlace := ["internal/reflectlite.ValueOf", "internal/reflectlite.Swapper", "(internal/reflectlite.Value).Len"], unfollowed := true, recurses := true, apart := false }
def GridTopsSaid : Prop := gridTopsRow.holds Try.pinned (OpenSpec.ofChange gridTopsSpec)

/-- ITS FALSE NEIGHBOUR: 'it returns false'. Refute it at one input. -/
def gridTopsWrong : ChangeSpec := { name := "gridTops", fn := fun _ => fun
  | [d1, d2, d3] => { results := [.lit (.bool false)], args := [d1, d2, d3] }
  | _ => none }
def GridTopsWrongFalsely : Prop := gridTopsRow.holds Try.pinned (OpenSpec.ofChange gridTopsWrong)

/-- 'damaskkeep.GridSplit': WHATEVER THE INPUT: true; the input reads as it did. -/
def gridSplitSpec : ChangeSpec := { name := "gridSplit", fn := fun _ => fun
  | [d1, d2, d3, d4, d5, d6] => { results := [.lit (.bool true)], args := [d1, d2, d3, d4, d5, d6] }
  | _ => none }
def gridSplitRow : OpenClaim := { program := "ythmfcdefdbeefaa", sum := "7d9d0acb5b642dd54b73d8d1cdd307b97a0be6aa6026fbf01f34f70b413c3e29", func := "damask/damaskkeep.GridSplit", spec := "gridSplit", unfollowed := true, recurses := true, apart := false }
def GridSplitSaid : Prop := gridSplitRow.holds Try.pinned (OpenSpec.ofChange gridSplitSpec)

/-- ITS FALSE NEIGHBOUR: 'it returns false'. Refute it at one input. -/
def gridSplitWrong : ChangeSpec := { name := "gridSplit", fn := fun _ => fun
  | [d1, d2, d3, d4, d5, d6] => { results := [.lit (.bool false)], args := [d1, d2, d3, d4, d5, d6] }
  | _ => none }
def GridSplitWrongFalsely : Prop := gridSplitRow.holds Try.pinned (OpenSpec.ofChange gridSplitWrong)

/-- 'damaskkeep.GridTurned': WHATEVER THE INPUT: true; the input reads as it did. -/
def gridTurnedSpec : ChangeSpec := { name := "gridTurned", fn := fun _ => fun
  | [d1, d2, d3, d4, d5, d6] => { results := [.lit (.bool true)], args := [d1, d2, d3, d4, d5, d6] }
  | _ => none }
def gridTurnedRow : OpenClaim := { program := "ythmfcdefdbeefaa", sum := "7d9d0acb5b642dd54b73d8d1cdd307b97a0be6aa6026fbf01f34f70b413c3e29", func := "damask/damaskkeep.GridTurned", spec := "gridTurned", unfollowed := true, recurses := true, apart := false }
def GridTurnedSaid : Prop := gridTurnedRow.holds Try.pinned (OpenSpec.ofChange gridTurnedSpec)

/-- ITS FALSE NEIGHBOUR: 'it returns false'. Refute it at one input. -/
def gridTurnedWrong : ChangeSpec := { name := "gridTurned", fn := fun _ => fun
  | [d1, d2, d3, d4, d5, d6] => { results := [.lit (.bool false)], args := [d1, d2, d3, d4, d5, d6] }
  | _ => none }
def GridTurnedWrongFalsely : Prop := gridTurnedRow.holds Try.pinned (OpenSpec.ofChange gridTurnedWrong)

/-- 'damaskkeep.GridAll': WHATEVER THE INPUT: true; the input reads as it did. -/
def gridAllSpec : ChangeSpec := { name := "gridAll", fn := fun _ => fun
  | [d1, d2, d3, d4, d5, d6] => { results := [.lit (.bool true)], args := [d1, d2, d3, d4, d5, d6] }
  | _ => none }
def gridAllRow : OpenClaim := { program := "ythmfcdefdbeefaa", sum := "7d9d0acb5b642dd54b73d8d1cdd307b97a0be6aa6026fbf01f34f70b413c3e29", func := "damask/damaskkeep.GridAll", spec := "gridAll", unfollowed := true, recurses := true, apart := false }
def GridAllSaid : Prop := gridAllRow.holds Try.pinned (OpenSpec.ofChange gridAllSpec)

/-- ITS FALSE NEIGHBOUR: 'it returns false'. Refute it at one input. -/
def gridAllWrong : ChangeSpec := { name := "gridAll", fn := fun _ => fun
  | [d1, d2, d3, d4, d5, d6] => { results := [.lit (.bool false)], args := [d1, d2, d3, d4, d5, d6] }
  | _ => none }
def GridAllWrongFalsely : Prop := gridAllRow.holds Try.pinned (OpenSpec.ofChange gridAllWrong)

/- THE SECOND FORM. 'bulk': how many values and letters a reading holds, each counted each time it is reached (what is shared counts as often as it is met; a slice's spare places count too). A statement '..UptoSaid' is the law's where the arguments, and the package variables that the reading takes, are together of bulk at most 1048576: NARROWER than '..Said'. Prove '..Said' where nothing that the law and all that it calls make is longer than what came in: it says more and counts as full. Else prove '..UptoSaid'. A law counts once. -/
mutual
def uptoBulk {H : Type} : DataW H → Nat
  | .lit (.string bytes) => bytes.length + 1
  | .lit _ => 1
  | .nil => 1
  | .ptr d => uptoBulk d + 1
  | .slice elems spare => uptoBulkAll elems + uptoBulkAll spare + 1
  | .agg parts => uptoBulkAll parts + 1
  | .iface _ d => uptoBulk d + 1
  | .map entries => uptoBulkEntries entries + 1
  | .held _ => 1
def uptoBulkAll {H : Type} : List (DataW H) → Nat
  | [] => 0
  | d :: r => uptoBulk d + uptoBulkAll r
def uptoBulkEntries {H : Type} : List (Lit × DataW H) → Nat
  | [] => 0
  | x :: r => uptoBulkEntry x + uptoBulkEntries r
def uptoBulkEntry {H : Type} : Lit × DataW H → Nat
  | (.string bytes, d) => bytes.length + uptoBulk d + 1
  | (_, d) => uptoBulk d + 1
 end
def uptoSmall : (H : Type) → List (DataW H) → Bool := fun _ ds => decide (uptoBulkAll ds ≤ 1048576)
def OpenSpec.upto (s : _root_.Go.ChangeSpec) : _root_.Go.OpenSpec := { _root_.Go.OpenSpec.ofChange s with cond := some uptoSmall }

/-- 'damasklaw.GridChecks', WHERE WHAT IT READS IS OF BULK AT MOST 1048576: true; the input reads as it did. -/
def gridChecksUptoRow : OpenClaim := { program := "ythmfcdefdbeefaa", sum := "7d9d0acb5b642dd54b73d8d1cdd307b97a0be6aa6026fbf01f34f70b413c3e29", func := "damask/damasklaw.GridChecks", spec := "gridChecks", apart := false, narrowed := true }
def GridChecksUptoSaid : Prop := gridChecksUptoRow.holds Try.pinned (OpenSpec.upto gridChecksSpec)

/-- 'damasklaw.GridCounts', WHERE WHAT IT READS IS OF BULK AT MOST 1048576: true; the input reads as it did. -/
def gridCountsUptoRow : OpenClaim := { program := "ythmfcdefdbeefaa", sum := "7d9d0acb5b642dd54b73d8d1cdd307b97a0be6aa6026fbf01f34f70b413c3e29", func := "damask/damasklaw.GridCounts", spec := "gridCounts", inPlace := ["internal/reflectlite.ValueOf", "internal/reflectlite.Swapper", "(internal/reflectlite.Value).Len"], unfollowed := true, recurses := true, apart := false, narrowed := true }
def GridCountsUptoSaid : Prop := gridCountsUptoRow.holds Try.pinned (OpenSpec.upto gridCountsSpec)

/-- 'damasklaw.GridReports', WHERE WHAT IT READS IS OF BULK AT MOST 1048576: true; the input reads as it did. -/
def gridReportsUptoRow : OpenClaim := { program := "ythmfcdefdbeefaa", sum := "7d9d0acb5b642dd54b73d8d1cdd307b97a0be6aa6026fbf01f34f70b413c3e29", func := "damask/damasklaw.GridReports", spec := "gridReports", inPlace := ["internal/reflectlite.ValueOf", "internal/reflectlite.Swapper", "(internal/reflectlite.Value).Len"], unfollowed := true, recurses := true, apart := false, narrowed := true }
def GridReportsUptoSaid : Prop := gridReportsUptoRow.holds Try.pinned (OpenSpec.upto gridReportsSpec)

/-- 'damasklaw.GridKths', WHERE WHAT IT READS IS OF BULK AT MOST 1048576: true; the input reads as it did. -/
def gridKthsUptoRow : OpenClaim := { program := "ythmfcdefdbeefaa", sum := "7d9d0acb5b642dd54b73d8d1cdd307b97a0be6aa6026fbf01f34f70b413c3e29", func := "damask/damasklaw.GridKths", spec := "gridKths", inPlace := ["internal/reflectlite.ValueOf", "internal/reflectlite.Swapper", "(internal/reflectlite.Value).Len"], unfollowed := true, recurses := true, apart := false, narrowed := true }
def GridKthsUptoSaid : Prop := gridKthsUptoRow.holds Try.pinned (OpenSpec.upto gridKthsSpec)

/-- 'damasklaw.GridTops', WHERE WHAT IT READS IS OF BULK AT MOST 1048576: true; the input reads as it did. -/
def gridTopsUptoRow : OpenClaim := { program := "ythmfcdefdbeefaa", sum := "7d9d0acb5b642dd54b73d8d1cdd307b97a0be6aa6026fbf01f34f70b413c3e29", func := "damask/damasklaw.GridTops", spec := "gridTops", inPlace := ["internal/reflectlite.ValueOf", "internal/reflectlite.Swapper", "(internal/reflectlite.Value).Len"], unfollowed := true, recurses := true, apart := false, narrowed := true }
def GridTopsUptoSaid : Prop := gridTopsUptoRow.holds Try.pinned (OpenSpec.upto gridTopsSpec)

/-- 'damaskkeep.GridSplit', WHERE WHAT IT READS IS OF BULK AT MOST 1048576: true; the input reads as it did. -/
def gridSplitUptoRow : OpenClaim := { program := "ythmfcdefdbeefaa", sum := "7d9d0acb5b642dd54b73d8d1cdd307b97a0be6aa6026fbf01f34f70b413c3e29", func := "damask/damaskkeep.GridSplit", spec := "gridSplit", unfollowed := true, recurses := true, apart := false, narrowed := true }
def GridSplitUptoSaid : Prop := gridSplitUptoRow.holds Try.pinned (OpenSpec.upto gridSplitSpec)

/-- 'damaskkeep.GridTurned', WHERE WHAT IT READS IS OF BULK AT MOST 1048576: true; the input reads as it did. -/
def gridTurnedUptoRow : OpenClaim := { program := "ythmfcdefdbeefaa", sum := "7d9d0acb5b642dd54b73d8d1cdd307b97a0be6aa6026fbf01f34f70b413c3e29", func := "damask/damaskkeep.GridTurned", spec := "gridTurned", unfollowed := true, recurses := true, apart := false, narrowed := true }
def GridTurnedUptoSaid : Prop := gridTurnedUptoRow.holds Try.pinned (OpenSpec.upto gridTurnedSpec)

/-- 'damaskkeep.GridAll', WHERE WHAT IT READS IS OF BULK AT MOST 1048576: true; the input reads as it did. -/
def gridAllUptoRow : OpenClaim := { program := "ythmfcdefdbeefaa", sum := "7d9d0acb5b642dd54b73d8d1cdd307b97a0be6aa6026fbf01f34f70b413c3e29", func := "damask/damaskkeep.GridAll", spec := "gridAll", unfollowed := true, recurses := true, apart := false, narrowed := true }
def GridAllUptoSaid : Prop := gridAllUptoRow.holds Try.pinned (OpenSpec.upto gridAllSpec)

end Rows
end Go.Proofs.Ythmfcdefdbeefaa
