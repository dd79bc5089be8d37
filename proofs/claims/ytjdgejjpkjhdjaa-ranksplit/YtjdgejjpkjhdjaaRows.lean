/-
  No cell of these rows narrows 'for every input' (looked for: loops, veiled, ifaces, maps, wideKeys, modest, calm, conditions, laid).
  DERIVED. THE GIVEN ROWS OF THIS SEAT. 5 by the template 'for every input the law returns true; each argument reads behind the call as it read before'; 0 by the template 'total and deterministic' (their statements: YtjdgejjpkjhdjaaTotals.lean).
  GIVEN WITH THE SEED: the statements are not yours to turn. If you find one false, say at which input.
  Laid BY PROGRAM, IN A SANDBOX (cutbox-rows.mjs): the forced cells as the released guide's own fill.sh prints them over the translation e94d96196daba35f… (all of the seat's roots in one cut). By AI agents, Wed Nov 11 2026. No macro, syntax, notation, axiom, sorry.
-/
import Derived.Test.YtjdgejjpkjhdjaaChecked
import GoSem.Claim
import GoSem.ClaimJoined
import GoSem.ClaimMapViews
import Derived.JoinedTies
import Derived.KernelRfl
namespace Go.Proofs.Ytjdgejjpkjhdjaa
/- THE CELL 'sum', in the pinned program and in every row, IS THE sha256 OF THE DUMP (.gsa) THAT YtjdgejjpkjhdjaaProg.lean LOADS. Nothing in Lean hashes anything: it is a label: what it is worth is what the hold of that sum in a sandbox is worth. -/
noncomputable def Try.pinned : Pinned := { name := "ytjdgejjpkjhdjaa", sum := "e94d96196daba35f008deefa683cb232374c40c2a97459fbcd1ecdd9cbf1aac6", checked := Try.checked }
namespace Rows
def none {H : Type} : Left H := { results := [], args := [] }

/-- 'damasklaw.PopOnes': WHATEVER THE INPUT: true; the input reads as it did. -/
def popOnesSpec : ChangeSpec := { name := "popOnes", fn := fun _ => fun
  | [d] => { results := [.lit (.bool true)], args := [d] }
  | _ => none }
def popOnesRow : OpenClaim := { program := "ytjdgejjpkjhdjaa", sum := "e94d96196daba35f008deefa683cb232374c40c2a97459fbcd1ecdd9cbf1aac6", func := "damask/damasklaw.PopOnes", spec := "popOnes", apart := false }
def PopOnesSaid : Prop := popOnesRow.holds Try.pinned (OpenSpec.ofChange popOnesSpec)

/-- ITS FALSE NEIGHBOUR: 'it returns false'. Refute it at one input. -/
def popOnesWrong : ChangeSpec := { name := "popOnes", fn := fun _ => fun
  | [d] => { results := [.lit (.bool false)], args := [d] }
  | _ => none }
def PopOnesWrongFalsely : Prop := popOnesRow.holds Try.pinned (OpenSpec.ofChange popOnesWrong)

/-- 'damasklaw.PopRanks': WHATEVER THE INPUT: true; the input reads as it did. -/
def popRanksSpec : ChangeSpec := { name := "popRanks", fn := fun _ => fun
  | [d1, d2] => { results := [.lit (.bool true)], args := [d1, d2] }
  | _ => none }
def popRanksRow : OpenClaim := { program := "ytjdgejjpkjhdjaa", sum := "e94d96196daba35f008deefa683cb232374c40c2a97459fbcd1ecdd9cbf1aac6", func := "damask/damasklaw.PopRanks", spec := "popRanks", apart := false }
def PopRanksSaid : Prop := popRanksRow.holds Try.pinned (OpenSpec.ofChange popRanksSpec)

/-- ITS FALSE NEIGHBOUR: 'it returns false'. Refute it at one input. -/
def popRanksWrong : ChangeSpec := { name := "popRanks", fn := fun _ => fun
  | [d1, d2] => { results := [.lit (.bool false)], args := [d1, d2] }
  | _ => none }
def PopRanksWrongFalsely : Prop := popRanksRow.holds Try.pinned (OpenSpec.ofChange popRanksWrong)

/-- 'damasklaw.PopTurns': WHATEVER THE INPUT: true; the input reads as it did. -/
def popTurnsSpec : ChangeSpec := { name := "popTurns", fn := fun _ => fun
  | [d] => { results := [.lit (.bool true)], args := [d] }
  | _ => none }
def popTurnsRow : OpenClaim := { program := "ytjdgejjpkjhdjaa", sum := "e94d96196daba35f008deefa683cb232374c40c2a97459fbcd1ecdd9cbf1aac6", func := "damask/damasklaw.PopTurns", spec := "popTurns", apart := false }
def PopTurnsSaid : Prop := popTurnsRow.holds Try.pinned (OpenSpec.ofChange popTurnsSpec)

/-- ITS FALSE NEIGHBOUR: 'it returns false'. Refute it at one input. -/
def popTurnsWrong : ChangeSpec := { name := "popTurns", fn := fun _ => fun
  | [d] => { results := [.lit (.bool false)], args := [d] }
  | _ => none }
def PopTurnsWrongFalsely : Prop := popTurnsRow.holds Try.pinned (OpenSpec.ofChange popTurnsWrong)

/-- 'damaskkeep.RankSplit': WHATEVER THE INPUT: true; the input reads as it did. -/
def rankSplitSpec : ChangeSpec := { name := "rankSplit", fn := fun _ => fun
  | [d1, d2, d3] => { results := [.lit (.bool true)], args := [d1, d2, d3] }
  | _ => none }
def rankSplitRow : OpenClaim := { program := "ytjdgejjpkjhdjaa", sum := "e94d96196daba35f008deefa683cb232374c40c2a97459fbcd1ecdd9cbf1aac6", func := "damask/damaskkeep.RankSplit", spec := "rankSplit", apart := false }
def RankSplitSaid : Prop := rankSplitRow.holds Try.pinned (OpenSpec.ofChange rankSplitSpec)

/-- ITS FALSE NEIGHBOUR: 'it returns false'. Refute it at one input. -/
def rankSplitWrong : ChangeSpec := { name := "rankSplit", fn := fun _ => fun
  | [d1, d2, d3] => { results := [.lit (.bool false)], args := [d1, d2, d3] }
  | _ => none }
def RankSplitWrongFalsely : Prop := rankSplitRow.holds Try.pinned (OpenSpec.ofChange rankSplitWrong)

/-- 'damaskkeep.TurnTwice': WHATEVER THE INPUT: true; the input reads as it did. -/
def turnTwiceSpec : ChangeSpec := { name := "turnTwice", fn := fun _ => fun
  | [d1, d2] => { results := [.lit (.bool true)], args := [d1, d2] }
  | _ => none }
def turnTwiceRow : OpenClaim := { program := "ytjdgejjpkjhdjaa", sum := "e94d96196daba35f008deefa683cb232374c40c2a97459fbcd1ecdd9cbf1aac6", func := "damask/damaskkeep.TurnTwice", spec := "turnTwice", apart := false }
def TurnTwiceSaid : Prop := turnTwiceRow.holds Try.pinned (OpenSpec.ofChange turnTwiceSpec)

/-- ITS FALSE NEIGHBOUR: 'it returns false'. Refute it at one input. -/
def turnTwiceWrong : ChangeSpec := { name := "turnTwice", fn := fun _ => fun
  | [d1, d2] => { results := [.lit (.bool false)], args := [d1, d2] }
  | _ => none }
def TurnTwiceWrongFalsely : Prop := turnTwiceRow.holds Try.pinned (OpenSpec.ofChange turnTwiceWrong)

/- THE SECOND FORM. 'bulk': how many values and letters a reading holds, each counted each time it is reached (what is shared counts as often as it is met; a slice's spare places count too). A statement '..UptoSaid' is the law's where the arguments, and the package variables that the reading takes, are together of bulk at most 1048576: NARROWER than '..Said'. Prove '..Said' where nothing that the law and all that it calls make is longer than what came in: it says more and counts as full. Else prove '..UptoSaid'. A law counts once. -/
mutual
def uptoBulk {H : Type} : DataW H → Nat
  | .lit (.string bytes) => bytes.length + 1
  | .lit _ => 1
  | .nil => 1
  | .ptr d => uptoBulk d + 1
  | .slice elems spare => uptoBulkAll elems + uptoBulkAll spare + 1
  | .agg parts => uptoBulkAll parts + 1
  | .iface _ d => uptoBulk d + 1
  | .map entries => uptoBulkEntries entries + 1
  | .held _ => 1
def uptoBulkAll {H : Type} : List (DataW H) → Nat
  | [] => 0
  | d :: r => uptoBulk d + uptoBulkAll r
def uptoBulkEntries {H : Type} : List (Lit × DataW H) → Nat
  | [] => 0
  | x :: r => uptoBulkEntry x + uptoBulkEntries r
def uptoBulkEntry {H : Type} : Lit × DataW H → Nat
  | (.string bytes, d) => bytes.length + uptoBulk d + 1
  | (_, d) => uptoBulk d + 1
 end
def uptoSmall : (H : Type) → List (DataW H) → Bool := fun _ ds => decide (uptoBulkAll ds ≤ 1048576)
def OpenSpec.upto (s : _root_.Go.ChangeSpec) : _root_.Go.OpenSpec := { _root_.Go.OpenSpec.ofChange s with cond := some uptoSmall }

/-- 'damasklaw.PopOnes', WHERE WHAT IT READS IS OF BULK AT MOST 1048576: true; the input reads as it did. -/
def popOnesUptoRow : OpenClaim := { program := "ytjdgejjpkjhdjaa", sum := "e94d96196daba35f008deefa683cb232374c40c2a97459fbcd1ecdd9cbf1aac6", func := "damask/damasklaw.PopOnes", spec := "popOnes", apart := false, narrowed := true }
def PopOnesUptoSaid : Prop := popOnesUptoRow.holds Try.pinned (OpenSpec.upto popOnesSpec)

/-- 'damasklaw.PopRanks', WHERE WHAT IT READS IS OF BULK AT MOST 1048576: true; the input reads as it did. -/
def popRanksUptoRow : OpenClaim := { program := "ytjdgejjpkjhdjaa", sum := "e94d96196daba35f008deefa683cb232374c40c2a97459fbcd1ecdd9cbf1aac6", func := "damask/damasklaw.PopRanks", spec := "popRanks", apart := false, narrowed := true }
def PopRanksUptoSaid : Prop := popRanksUptoRow.holds Try.pinned (OpenSpec.upto popRanksSpec)

/-- 'damasklaw.PopTurns', WHERE WHAT IT READS IS OF BULK AT MOST 1048576: true; the input reads as it did. -/
def popTurnsUptoRow : OpenClaim := { program := "ytjdgejjpkjhdjaa", sum := "e94d96196daba35f008deefa683cb232374c40c2a97459fbcd1ecdd9cbf1aac6", func := "damask/damasklaw.PopTurns", spec := "popTurns", apart := false, narrowed := true }
def PopTurnsUptoSaid : Prop := popTurnsUptoRow.holds Try.pinned (OpenSpec.upto popTurnsSpec)

/-- 'damaskkeep.RankSplit', WHERE WHAT IT READS IS OF BULK AT MOST 1048576: true; the input reads as it did. -/
def rankSplitUptoRow : OpenClaim := { program := "ytjdgejjpkjhdjaa", sum := "e94d96196daba35f008deefa683cb232374c40c2a97459fbcd1ecdd9cbf1aac6", func := "damask/damaskkeep.RankSplit", spec := "rankSplit", apart := false, narrowed := true }
def RankSplitUptoSaid : Prop := rankSplitUptoRow.holds Try.pinned (OpenSpec.upto rankSplitSpec)

/-- 'damaskkeep.TurnTwice', WHERE WHAT IT READS IS OF BULK AT MOST 1048576: true; the input reads as it did. -/
def turnTwiceUptoRow : OpenClaim := { program := "ytjdgejjpkjhdjaa", sum := "e94d96196daba35f008deefa683cb232374c40c2a97459fbcd1ecdd9cbf1aac6", func := "damask/damaskkeep.TurnTwice", spec := "turnTwice", apart := false, narrowed := true }
def TurnTwiceUptoSaid : Prop := turnTwiceUptoRow.holds Try.pinned (OpenSpec.upto turnTwiceSpec)

end Rows
end Go.Proofs.Ytjdgejjpkjhdjaa
