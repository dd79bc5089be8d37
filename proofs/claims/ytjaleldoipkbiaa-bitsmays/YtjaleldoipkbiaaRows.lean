/-
  No cell of these rows narrows 'for every input' (looked for: loops, veiled, ifaces, maps, wideKeys, modest, calm, conditions, laid).
  DERIVED. THE GIVEN ROWS OF THIS SEAT. 6 by the template 'for every input the law returns true; each argument reads behind the call as it read before'; 0 by the template 'total and deterministic' (their statements: YtjaleldoipkbiaaTotals.lean).
  GIVEN WITH THE SEED: the statements are not yours to turn. If you find one false, say at which input.
  Laid BY PROGRAM, IN A SANDBOX (cutbox-rows.mjs): the forced cells as the released guide's own fill.sh prints them over the translation 5d588c515c51ce69… (all of the seat's roots in one cut). By AI agents, Wed Nov 11 2026. No macro, syntax, notation, axiom, sorry.
-/
import Derived.Test.YtjaleldoipkbiaaChecked
import GoSem.Claim
import GoSem.ClaimJoined
import GoSem.ClaimMapViews
import Derived.JoinedTies
import Derived.KernelRfl
namespace Go.Proofs.Ytjaleldoipkbiaa
/- THE CELL 'sum', in the pinned program and in every row, IS THE sha256 OF THE DUMP (.gsa) THAT YtjaleldoipkbiaaProg.lean LOADS. Nothing in Lean hashes anything: it is a label: what it is worth is what the hold of that sum in a sandbox is worth. -/
noncomputable def Try.pinned : Pinned := { name := "ytjaleldoipkbiaa", sum := "5d588c515c51ce69c59fc26cfae2ddf3a58002c8ab9e62e1d876dcf5c85d9ee4", checked := Try.checked }
namespace Rows
def none {H : Type} : Left H := { results := [], args := [] }

/-- 'damasklaw.BitsMakes': WHATEVER THE INPUT: true; the input reads as it did. -/
def bitsMakesSpec : ChangeSpec := { name := "bitsMakes", fn := fun _ => fun
  | [d] => { results := [.lit (.bool true)], args := [d] }
  | _ => none }
def bitsMakesRow : OpenClaim := { program := "ytjaleldoipkbiaa", sum := "5d588c515c51ce69c59fc26cfae2ddf3a58002c8ab9e62e1d876dcf5c85d9ee4", func := "damask/damasklaw.BitsMakes", spec := "bitsMakes", apart := false }
def BitsMakesSaid : Prop := bitsMakesRow.holds Try.pinned (OpenSpec.ofChange bitsMakesSpec)

/-- ITS FALSE NEIGHBOUR: 'it returns false'. Refute it at one input. -/
def bitsMakesWrong : ChangeSpec := { name := "bitsMakes", fn := fun _ => fun
  | [d] => { results := [.lit (.bool false)], args := [d] }
  | _ => none }
def BitsMakesWrongFalsely : Prop := bitsMakesRow.holds Try.pinned (OpenSpec.ofChange bitsMakesWrong)

/-- 'damasklaw.BitsMays': WHATEVER THE INPUT: true; the input reads as it did. -/
def bitsMaysSpec : ChangeSpec := { name := "bitsMays", fn := fun _ => fun
  | [d] => { results := [.lit (.bool true)], args := [d] }
  | _ => none }
def bitsMaysRow : OpenClaim := { program := "ytjaleldoipkbiaa", sum := "5d588c515c51ce69c59fc26cfae2ddf3a58002c8ab9e62e1d876dcf5c85d9ee4", func := "damask/damasklaw.BitsMays", spec := "bitsMays", apart := false }
def BitsMaysSaid : Prop := bitsMaysRow.holds Try.pinned (OpenSpec.ofChange bitsMaysSpec)

/-- ITS FALSE NEIGHBOUR: 'it returns false'. Refute it at one input. -/
def bitsMaysWrong : ChangeSpec := { name := "bitsMays", fn := fun _ => fun
  | [d] => { results := [.lit (.bool false)], args := [d] }
  | _ => none }
def BitsMaysWrongFalsely : Prop := bitsMaysRow.holds Try.pinned (OpenSpec.ofChange bitsMaysWrong)

/-- 'damasklaw.BitsAts': WHATEVER THE INPUT: true; the input reads as it did. -/
def bitsAtsSpec : ChangeSpec := { name := "bitsAts", fn := fun _ => fun
  | [d1, d2] => { results := [.lit (.bool true)], args := [d1, d2] }
  | _ => none }
def bitsAtsRow : OpenClaim := { program := "ytjaleldoipkbiaa", sum := "5d588c515c51ce69c59fc26cfae2ddf3a58002c8ab9e62e1d876dcf5c85d9ee4", func := "damask/damasklaw.BitsAts", spec := "bitsAts", apart := false }
def BitsAtsSaid : Prop := bitsAtsRow.holds Try.pinned (OpenSpec.ofChange bitsAtsSpec)

/-- ITS FALSE NEIGHBOUR: 'it returns false'. Refute it at one input. -/
def bitsAtsWrong : ChangeSpec := { name := "bitsAts", fn := fun _ => fun
  | [d1, d2] => { results := [.lit (.bool false)], args := [d1, d2] }
  | _ => none }
def BitsAtsWrongFalsely : Prop := bitsAtsRow.holds Try.pinned (OpenSpec.ofChange bitsAtsWrong)

/-- 'damasklaw.BitsRanks': WHATEVER THE INPUT: true; the input reads as it did. -/
def bitsRanksSpec : ChangeSpec := { name := "bitsRanks", fn := fun _ => fun
  | [d1, d2] => { results := [.lit (.bool true)], args := [d1, d2] }
  | _ => none }
def bitsRanksRow : OpenClaim := { program := "ytjaleldoipkbiaa", sum := "5d588c515c51ce69c59fc26cfae2ddf3a58002c8ab9e62e1d876dcf5c85d9ee4", func := "damask/damasklaw.BitsRanks", spec := "bitsRanks", apart := false }
def BitsRanksSaid : Prop := bitsRanksRow.holds Try.pinned (OpenSpec.ofChange bitsRanksSpec)

/-- ITS FALSE NEIGHBOUR: 'it returns false'. Refute it at one input. -/
def bitsRanksWrong : ChangeSpec := { name := "bitsRanks", fn := fun _ => fun
  | [d1, d2] => { results := [.lit (.bool false)], args := [d1, d2] }
  | _ => none }
def BitsRanksWrongFalsely : Prop := bitsRanksRow.holds Try.pinned (OpenSpec.ofChange bitsRanksWrong)

/-- 'damaskkeep.RowBack': WHATEVER THE INPUT: true; the input reads as it did. -/
def rowBackSpec : ChangeSpec := { name := "rowBack", fn := fun _ => fun
  | [d] => { results := [.lit (.bool true)], args := [d] }
  | _ => none }
def rowBackRow : OpenClaim := { program := "ytjaleldoipkbiaa", sum := "5d588c515c51ce69c59fc26cfae2ddf3a58002c8ab9e62e1d876dcf5c85d9ee4", func := "damask/damaskkeep.RowBack", spec := "rowBack", apart := false }
def RowBackSaid : Prop := rowBackRow.holds Try.pinned (OpenSpec.ofChange rowBackSpec)

/-- ITS FALSE NEIGHBOUR: 'it returns false'. Refute it at one input. -/
def rowBackWrong : ChangeSpec := { name := "rowBack", fn := fun _ => fun
  | [d] => { results := [.lit (.bool false)], args := [d] }
  | _ => none }
def RowBackWrongFalsely : Prop := rowBackRow.holds Try.pinned (OpenSpec.ofChange rowBackWrong)

/-- 'damaskkeep.RowJoin': WHATEVER THE INPUT: true; the input reads as it did. -/
def rowJoinSpec : ChangeSpec := { name := "rowJoin", fn := fun _ => fun
  | [d1, d2, d3] => { results := [.lit (.bool true)], args := [d1, d2, d3] }
  | _ => none }
def rowJoinRow : OpenClaim := { program := "ytjaleldoipkbiaa", sum := "5d588c515c51ce69c59fc26cfae2ddf3a58002c8ab9e62e1d876dcf5c85d9ee4", func := "damask/damaskkeep.RowJoin", spec := "rowJoin", apart := false }
def RowJoinSaid : Prop := rowJoinRow.holds Try.pinned (OpenSpec.ofChange rowJoinSpec)

/-- ITS FALSE NEIGHBOUR: 'it returns false'. Refute it at one input. -/
def rowJoinWrong : ChangeSpec := { name := "rowJoin", fn := fun _ => fun
  | [d1, d2, d3] => { results := [.lit (.bool false)], args := [d1, d2, d3] }
  | _ => none }
def RowJoinWrongFalsely : Prop := rowJoinRow.holds Try.pinned (OpenSpec.ofChange rowJoinWrong)

/- THE SECOND FORM. 'bulk': how many values and letters a reading holds, each counted each time it is reached (what is shared counts as often as it is met; a slice's spare places count too). A statement '..UptoSaid' is the law's where the arguments, and the package variables that the reading takes, are together of bulk at most 1048576: NARROWER than '..Said'. Prove '..Said' where nothing that the law and all that it calls make is longer than what came in: it says more and counts as full. Else prove '..UptoSaid'. A law counts once. -/
mutual
def uptoBulk {H : Type} : DataW H → Nat
  | .lit (.string bytes) => bytes.length + 1
  | .lit _ => 1
  | .nil => 1
  | .ptr d => uptoBulk d + 1
  | .slice elems spare => uptoBulkAll elems + uptoBulkAll spare + 1
  | .agg parts => uptoBulkAll parts + 1
  | .iface _ d => uptoBulk d + 1
  | .map entries => uptoBulkEntries entries + 1
  | .held _ => 1
def uptoBulkAll {H : Type} : List (DataW H) → Nat
  | [] => 0
  | d :: r => uptoBulk d + uptoBulkAll r
def uptoBulkEntries {H : Type} : List (Lit × DataW H) → Nat
  | [] => 0
  | x :: r => uptoBulkEntry x + uptoBulkEntries r
def uptoBulkEntry {H : Type} : Lit × DataW H → Nat
  | (.string bytes, d) => bytes.length + uptoBulk d + 1
  | (_, d) => uptoBulk d + 1
 end
def uptoSmall : (H : Type) → List (DataW H) → Bool := fun _ ds => decide (uptoBulkAll ds ≤ 1048576)
def OpenSpec.upto (s : _root_.Go.ChangeSpec) : _root_.Go.OpenSpec := { _root_.Go.OpenSpec.ofChange s with cond := some uptoSmall }

/-- 'damasklaw.BitsMakes', WHERE WHAT IT READS IS OF BULK AT MOST 1048576: true; the input reads as it did. -/
def bitsMakesUptoRow : OpenClaim := { program := "ytjaleldoipkbiaa", sum := "5d588c515c51ce69c59fc26cfae2ddf3a58002c8ab9e62e1d876dcf5c85d9ee4", func := "damask/damasklaw.BitsMakes", spec := "bitsMakes", apart := false, narrowed := true }
def BitsMakesUptoSaid : Prop := bitsMakesUptoRow.holds Try.pinned (OpenSpec.upto bitsMakesSpec)

/-- 'damasklaw.BitsMays', WHERE WHAT IT READS IS OF BULK AT MOST 1048576: true; the input reads as it did. -/
def bitsMaysUptoRow : OpenClaim := { program := "ytjaleldoipkbiaa", sum := "5d588c515c51ce69c59fc26cfae2ddf3a58002c8ab9e62e1d876dcf5c85d9ee4", func := "damask/damasklaw.BitsMays", spec := "bitsMays", apart := false, narrowed := true }
def BitsMaysUptoSaid : Prop := bitsMaysUptoRow.holds Try.pinned (OpenSpec.upto bitsMaysSpec)

/-- 'damasklaw.BitsAts', WHERE WHAT IT READS IS OF BULK AT MOST 1048576: true; the input reads as it did. -/
def bitsAtsUptoRow : OpenClaim := { program := "ytjaleldoipkbiaa", sum := "5d588c515c51ce69c59fc26cfae2ddf3a58002c8ab9e62e1d876dcf5c85d9ee4", func := "damask/damasklaw.BitsAts", spec := "bitsAts", apart := false, narrowed := true }
def BitsAtsUptoSaid : Prop := bitsAtsUptoRow.holds Try.pinned (OpenSpec.upto bitsAtsSpec)

/-- 'damasklaw.BitsRanks', WHERE WHAT IT READS IS OF BULK AT MOST 1048576: true; the input reads as it did. -/
def bitsRanksUptoRow : OpenClaim := { program := "ytjaleldoipkbiaa", sum := "5d588c515c51ce69c59fc26cfae2ddf3a58002c8ab9e62e1d876dcf5c85d9ee4", func := "damask/damasklaw.BitsRanks", spec := "bitsRanks", apart := false, narrowed := true }
def BitsRanksUptoSaid : Prop := bitsRanksUptoRow.holds Try.pinned (OpenSpec.upto bitsRanksSpec)

/-- 'damaskkeep.RowBack', WHERE WHAT IT READS IS OF BULK AT MOST 1048576: true; the input reads as it did. -/
def rowBackUptoRow : OpenClaim := { program := "ytjaleldoipkbiaa", sum := "5d588c515c51ce69c59fc26cfae2ddf3a58002c8ab9e62e1d876dcf5c85d9ee4", func := "damask/damaskkeep.RowBack", spec := "rowBack", apart := false, narrowed := true }
def RowBackUptoSaid : Prop := rowBackUptoRow.holds Try.pinned (OpenSpec.upto rowBackSpec)

/-- 'damaskkeep.RowJoin', WHERE WHAT IT READS IS OF BULK AT MOST 1048576: true; the input reads as it did. -/
def rowJoinUptoRow : OpenClaim := { program := "ytjaleldoipkbiaa", sum := "5d588c515c51ce69c59fc26cfae2ddf3a58002c8ab9e62e1d876dcf5c85d9ee4", func := "damask/damaskkeep.RowJoin", spec := "rowJoin", apart := false, narrowed := true }
def RowJoinUptoSaid : Prop := rowJoinUptoRow.holds Try.pinned (OpenSpec.upto rowJoinSpec)

end Rows
end Go.Proofs.Ytjaleldoipkbiaa
