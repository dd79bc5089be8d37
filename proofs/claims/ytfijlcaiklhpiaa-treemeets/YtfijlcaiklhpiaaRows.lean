/-
  No cell of these rows narrows 'for every input' (looked for: loops, veiled, ifaces, maps, wideKeys, modest, calm, conditions, laid).
  DERIVED. THE GIVEN ROWS OF THIS SEAT. 6 by the template 'for every input the law returns true; each argument reads behind the call as it read before'; 0 by the template 'total and deterministic' (their statements: YtfijlcaiklhpiaaTotals.lean).
  GIVEN WITH THE SEED: the statements are not yours to turn. If you find one false, say at which input.
  Laid BY PROGRAM, IN A SANDBOX (cutbox-rows.mjs): the forced cells as the released guide's own fill.sh prints them over the translation fe65c6f6483740ac… (all of the seat's roots in one cut). By AI agents, Wed Nov 11 2026. No macro, syntax, notation, axiom, sorry.
-/
import Derived.Test.YtfijlcaiklhpiaaChecked
import GoSem.Claim
import GoSem.ClaimJoined
import GoSem.ClaimMapViews
import Derived.JoinedTies
import Derived.KernelRfl
namespace Go.Proofs.Ytfijlcaiklhpiaa
/- THE CELL 'sum', in the pinned program and in every row, IS THE sha256 OF THE DUMP (.gsa) THAT YtfijlcaiklhpiaaProg.lean LOADS. Nothing in Lean hashes anything: it is a label: what it is worth is what the hold of that sum in a sandbox is worth. -/
noncomputable def Try.pinned : Pinned := { name := "ytfijlcaiklhpiaa", sum := "fe65c6f6483740ac1da46113c37181eb64212085d81bd6991b18e9d38d340944", checked := Try.checked }
namespace Rows
def none {H : Type} : Left H := { results := [], args := [] }

/-- 'damasklaw.RmqMakes': WHATEVER THE INPUT: true; the input reads as it did. -/
def rmqMakesSpec : ChangeSpec := { name := "rmqMakes", fn := fun _ => fun
  | [d] => { results := [.lit (.bool true)], args := [d] }
  | _ => none }
def rmqMakesRow : OpenClaim := { program := "ytfijlcaiklhpiaa", sum := "fe65c6f6483740ac1da46113c37181eb64212085d81bd6991b18e9d38d340944", func := "damask/damasklaw.RmqMakes", spec := "rmqMakes", apart := false }
def RmqMakesSaid : Prop := rmqMakesRow.holds Try.pinned (OpenSpec.ofChange rmqMakesSpec)

/-- ITS FALSE NEIGHBOUR: 'it returns false'. Refute it at one input. -/
def rmqMakesWrong : ChangeSpec := { name := "rmqMakes", fn := fun _ => fun
  | [d] => { results := [.lit (.bool false)], args := [d] }
  | _ => none }
def RmqMakesWrongFalsely : Prop := rmqMakesRow.holds Try.pinned (OpenSpec.ofChange rmqMakesWrong)

/-- 'damasklaw.RmqTops': WHATEVER THE INPUT: true; the input reads as it did. -/
def rmqTopsSpec : ChangeSpec := { name := "rmqTops", fn := fun _ => fun
  | [d1, d2, d3, d4] => { results := [.lit (.bool true)], args := [d1, d2, d3, d4] }
  | _ => none }
def rmqTopsRow : OpenClaim := { program := "ytfijlcaiklhpiaa", sum := "fe65c6f6483740ac1da46113c37181eb64212085d81bd6991b18e9d38d340944", func := "damask/damasklaw.RmqTops", spec := "rmqTops", unfollowed := true, recurses := true, apart := false }
def RmqTopsSaid : Prop := rmqTopsRow.holds Try.pinned (OpenSpec.ofChange rmqTopsSpec)

/-- ITS FALSE NEIGHBOUR: 'it returns false'. Refute it at one input. -/
def rmqTopsWrong : ChangeSpec := { name := "rmqTops", fn := fun _ => fun
  | [d1, d2, d3, d4] => { results := [.lit (.bool false)], args := [d1, d2, d3, d4] }
  | _ => none }
def RmqTopsWrongFalsely : Prop := rmqTopsRow.holds Try.pinned (OpenSpec.ofChange rmqTopsWrong)

/-- 'damasklaw.RmqTrees': WHATEVER THE INPUT: true; the input reads as it did. -/
def rmqTreesSpec : ChangeSpec := { name := "rmqTrees", fn := fun _ => fun
  | [d] => { results := [.lit (.bool true)], args := [d] }
  | _ => none }
def rmqTreesRow : OpenClaim := { program := "ytfijlcaiklhpiaa", sum := "fe65c6f6483740ac1da46113c37181eb64212085d81bd6991b18e9d38d340944", func := "damask/damasklaw.RmqTrees", spec := "rmqTrees", unfollowed := true, recurses := true, apart := false }
def RmqTreesSaid : Prop := rmqTreesRow.holds Try.pinned (OpenSpec.ofChange rmqTreesSpec)

/-- ITS FALSE NEIGHBOUR: 'it returns false'. Refute it at one input. -/
def rmqTreesWrong : ChangeSpec := { name := "rmqTrees", fn := fun _ => fun
  | [d] => { results := [.lit (.bool false)], args := [d] }
  | _ => none }
def RmqTreesWrongFalsely : Prop := rmqTreesRow.holds Try.pinned (OpenSpec.ofChange rmqTreesWrong)

/-- 'damaskkeep.TopGreatest': WHATEVER THE INPUT: true; the input reads as it did. -/
def topGreatestSpec : ChangeSpec := { name := "topGreatest", fn := fun _ => fun
  | [d1, d2, d3] => { results := [.lit (.bool true)], args := [d1, d2, d3] }
  | _ => none }
def topGreatestRow : OpenClaim := { program := "ytfijlcaiklhpiaa", sum := "fe65c6f6483740ac1da46113c37181eb64212085d81bd6991b18e9d38d340944", func := "damask/damaskkeep.TopGreatest", spec := "topGreatest", unfollowed := true, recurses := true, apart := false }
def TopGreatestSaid : Prop := topGreatestRow.holds Try.pinned (OpenSpec.ofChange topGreatestSpec)

/-- ITS FALSE NEIGHBOUR: 'it returns false'. Refute it at one input. -/
def topGreatestWrong : ChangeSpec := { name := "topGreatest", fn := fun _ => fun
  | [d1, d2, d3] => { results := [.lit (.bool false)], args := [d1, d2, d3] }
  | _ => none }
def TopGreatestWrongFalsely : Prop := topGreatestRow.holds Try.pinned (OpenSpec.ofChange topGreatestWrong)

/-- 'damaskkeep.TopSplit': WHATEVER THE INPUT: true; the input reads as it did. -/
def topSplitSpec : ChangeSpec := { name := "topSplit", fn := fun _ => fun
  | [d1, d2, d3, d4] => { results := [.lit (.bool true)], args := [d1, d2, d3, d4] }
  | _ => none }
def topSplitRow : OpenClaim := { program := "ytfijlcaiklhpiaa", sum := "fe65c6f6483740ac1da46113c37181eb64212085d81bd6991b18e9d38d340944", func := "damask/damaskkeep.TopSplit", spec := "topSplit", unfollowed := true, recurses := true, apart := false }
def TopSplitSaid : Prop := topSplitRow.holds Try.pinned (OpenSpec.ofChange topSplitSpec)

/-- ITS FALSE NEIGHBOUR: 'it returns false'. Refute it at one input. -/
def topSplitWrong : ChangeSpec := { name := "topSplit", fn := fun _ => fun
  | [d1, d2, d3, d4] => { results := [.lit (.bool false)], args := [d1, d2, d3, d4] }
  | _ => none }
def TopSplitWrongFalsely : Prop := topSplitRow.holds Try.pinned (OpenSpec.ofChange topSplitWrong)

/-- 'damaskkeep.TreeMeets': WHATEVER THE INPUT: true; the input reads as it did. -/
def treeMeetsSpec : ChangeSpec := { name := "treeMeets", fn := fun _ => fun
  | [d1, d2, d3] => { results := [.lit (.bool true)], args := [d1, d2, d3] }
  | _ => none }
def treeMeetsRow : OpenClaim := { program := "ytfijlcaiklhpiaa", sum := "fe65c6f6483740ac1da46113c37181eb64212085d81bd6991b18e9d38d340944", func := "damask/damaskkeep.TreeMeets", spec := "treeMeets", unfollowed := true, recurses := true, apart := false }
def TreeMeetsSaid : Prop := treeMeetsRow.holds Try.pinned (OpenSpec.ofChange treeMeetsSpec)

/-- ITS FALSE NEIGHBOUR: 'it returns false'. Refute it at one input. -/
def treeMeetsWrong : ChangeSpec := { name := "treeMeets", fn := fun _ => fun
  | [d1, d2, d3] => { results := [.lit (.bool false)], args := [d1, d2, d3] }
  | _ => none }
def TreeMeetsWrongFalsely : Prop := treeMeetsRow.holds Try.pinned (OpenSpec.ofChange treeMeetsWrong)

/- THE SECOND FORM. 'bulk': how many values and letters a reading holds, each counted each time it is reached (what is shared counts as often as it is met; a slice's spare places count too). A statement '..UptoSaid' is the law's where the arguments, and the package variables that the reading takes, are together of bulk at most 1048576: NARROWER than '..Said'. Prove '..Said' where nothing that the law and all that it calls make is longer than what came in: it says more and counts as full. Else prove '..UptoSaid'. A law counts once. -/
mutual
def uptoBulk {H : Type} : DataW H → Nat
  | .lit (.string bytes) => bytes.length + 1
  | .lit _ => 1
  | .nil => 1
  | .ptr d => uptoBulk d + 1
  | .slice elems spare => uptoBulkAll elems + uptoBulkAll spare + 1
  | .agg parts => uptoBulkAll parts + 1
  | .iface _ d => uptoBulk d + 1
  | .map entries => uptoBulkEntries entries + 1
  | .held _ => 1
def uptoBulkAll {H : Type} : List (DataW H) → Nat
  | [] => 0
  | d :: r => uptoBulk d + uptoBulkAll r
def uptoBulkEntries {H : Type} : List (Lit × DataW H) → Nat
  | [] => 0
  | x :: r => uptoBulkEntry x + uptoBulkEntries r
def uptoBulkEntry {H : Type} : Lit × DataW H → Nat
  | (.string bytes, d) => bytes.length + uptoBulk d + 1
  | (_, d) => uptoBulk d + 1
 end
def uptoSmall : (H : Type) → List (DataW H) → Bool := fun _ ds => decide (uptoBulkAll ds ≤ 1048576)
def OpenSpec.upto (s : _root_.Go.ChangeSpec) : _root_.Go.OpenSpec := { _root_.Go.OpenSpec.ofChange s with cond := some uptoSmall }

/-- 'damasklaw.RmqMakes', WHERE WHAT IT READS IS OF BULK AT MOST 1048576: true; the input reads as it did. -/
def rmqMakesUptoRow : OpenClaim := { program := "ytfijlcaiklhpiaa", sum := "fe65c6f6483740ac1da46113c37181eb64212085d81bd6991b18e9d38d340944", func := "damask/damasklaw.RmqMakes", spec := "rmqMakes", apart := false, narrowed := true }
def RmqMakesUptoSaid : Prop := rmqMakesUptoRow.holds Try.pinned (OpenSpec.upto rmqMakesSpec)

/-- 'damasklaw.RmqTops', WHERE WHAT IT READS IS OF BULK AT MOST 1048576: true; the input reads as it did. -/
def rmqTopsUptoRow : OpenClaim := { program := "ytfijlcaiklhpiaa", sum := "fe65c6f6483740ac1da46113c37181eb64212085d81bd6991b18e9d38d340944", func := "damask/damasklaw.RmqTops", spec := "rmqTops", unfollowed := true, recurses := true, apart := false, narrowed := true }
def RmqTopsUptoSaid : Prop := rmqTopsUptoRow.holds Try.pinned (OpenSpec.upto rmqTopsSpec)

/-- 'damasklaw.RmqTrees', WHERE WHAT IT READS IS OF BULK AT MOST 1048576: true; the input reads as it did. -/
def rmqTreesUptoRow : OpenClaim := { program := "ytfijlcaiklhpiaa", sum := "fe65c6f6483740ac1da46113c37181eb64212085d81bd6991b18e9d38d340944", func := "damask/damasklaw.RmqTrees", spec := "rmqTrees", unfollowed := true, recurses := true, apart := false, narrowed := true }
def RmqTreesUptoSaid : Prop := rmqTreesUptoRow.holds Try.pinned (OpenSpec.upto rmqTreesSpec)

/-- 'damaskkeep.TopGreatest', WHERE WHAT IT READS IS OF BULK AT MOST 1048576: true; the input reads as it did. -/
def topGreatestUptoRow : OpenClaim := { program := "ytfijlcaiklhpiaa", sum := "fe65c6f6483740ac1da46113c37181eb64212085d81bd6991b18e9d38d340944", func := "damask/damaskkeep.TopGreatest", spec := "topGreatest", unfollowed := true, recurses := true, apart := false, narrowed := true }
def TopGreatestUptoSaid : Prop := topGreatestUptoRow.holds Try.pinned (OpenSpec.upto topGreatestSpec)

/-- 'damaskkeep.TopSplit', WHERE WHAT IT READS IS OF BULK AT MOST 1048576: true; the input reads as it did. -/
def topSplitUptoRow : OpenClaim := { program := "ytfijlcaiklhpiaa", sum := "fe65c6f6483740ac1da46113c37181eb64212085d81bd6991b18e9d38d340944", func := "damask/damaskkeep.TopSplit", spec := "topSplit", unfollowed := true, recurses := true, apart := false, narrowed := true }
def TopSplitUptoSaid : Prop := topSplitUptoRow.holds Try.pinned (OpenSpec.upto topSplitSpec)

/-- 'damaskkeep.TreeMeets', WHERE WHAT IT READS IS OF BULK AT MOST 1048576: true; the input reads as it did. -/
def treeMeetsUptoRow : OpenClaim := { program := "ytfijlcaiklhpiaa", sum := "fe65c6f6483740ac1da46113c37181eb64212085d81bd6991b18e9d38d340944", func := "damask/damaskkeep.TreeMeets", spec := "treeMeets", unfollowed := true, recurses := true, apart := false, narrowed := true }
def TreeMeetsUptoSaid : Prop := treeMeetsUptoRow.holds Try.pinned (OpenSpec.upto treeMeetsSpec)

end Rows
end Go.Proofs.Ytfijlcaiklhpiaa
