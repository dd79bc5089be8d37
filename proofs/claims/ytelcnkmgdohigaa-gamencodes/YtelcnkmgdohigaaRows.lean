/-
  No cell of these rows narrows 'for every input' (looked for: loops, veiled, ifaces, maps, wideKeys, modest, calm, conditions, laid).
  DERIVED. THE GIVEN ROWS OF THIS SEAT. 6 by the template 'for every input the law returns true; each argument reads behind the call as it read before'; 0 by the template 'total and deterministic' (their statements: YtelcnkmgdohigaaTotals.lean).
  GIVEN WITH THE SEED: the statements are not yours to turn. If you find one false, say at which input.
  Laid BY PROGRAM, IN A SANDBOX (cutbox-rows.mjs): the forced cells as the released guide's own fill.sh prints them over the translation 52d55ffb216a38b6… (all of the seat's roots in one cut). By AI agents, Wed Nov 11 2026. No macro, syntax, notation, axiom, sorry.
-/
import Derived.Test.YtelcnkmgdohigaaChecked
import GoSem.Claim
import GoSem.ClaimJoined
import GoSem.ClaimMapViews
import Derived.JoinedTies
import Derived.KernelRfl
namespace Go.Proofs.Ytelcnkmgdohigaa
/- THE CELL 'sum', in the pinned program and in every row, IS THE sha256 OF THE DUMP (.gsa) THAT YtelcnkmgdohigaaProg.lean LOADS. Nothing in Lean hashes anything: it is a label: what it is worth is what the hold of that sum in a sandbox is worth. -/
noncomputable def Try.pinned : Pinned := { name := "ytelcnkmgdohigaa", sum := "52d55ffb216a38b675daef1178abbd6f0466b8e5e1dbea231286cbe7355ff692", checked := Try.checked }
namespace Rows
def none {H : Type} : Left H := { results := [], args := [] }

/-- 'damasklaw.GamEncodes': WHATEVER THE INPUT: true; the input reads as it did. -/
def gamEncodesSpec : ChangeSpec := { name := "gamEncodes", fn := fun _ => fun
  | [d1, d2] => { results := [.lit (.bool true)], args := [d1, d2] }
  | _ => none }
def gamEncodesRow : OpenClaim := { program := "ytelcnkmgdohigaa", sum := "52d55ffb216a38b675daef1178abbd6f0466b8e5e1dbea231286cbe7355ff692", func := "damask/damasklaw.GamEncodes", spec := "gamEncodes", recurses := true, apart := false }
def GamEncodesSaid : Prop := gamEncodesRow.holds Try.pinned (OpenSpec.ofChange gamEncodesSpec)

/-- ITS FALSE NEIGHBOUR: 'it returns false'. Refute it at one input. -/
def gamEncodesWrong : ChangeSpec := { name := "gamEncodes", fn := fun _ => fun
  | [d1, d2] => { results := [.lit (.bool false)], args := [d1, d2] }
  | _ => none }
def GamEncodesWrongFalsely : Prop := gamEncodesRow.holds Try.pinned (OpenSpec.ofChange gamEncodesWrong)

/-- 'damasklaw.GamDecodes': WHATEVER THE INPUT: true; the input reads as it did. -/
def gamDecodesSpec : ChangeSpec := { name := "gamDecodes", fn := fun _ => fun
  | [d1, d2] => { results := [.lit (.bool true)], args := [d1, d2] }
  | _ => none }
def gamDecodesRow : OpenClaim := { program := "ytelcnkmgdohigaa", sum := "52d55ffb216a38b675daef1178abbd6f0466b8e5e1dbea231286cbe7355ff692", func := "damask/damasklaw.GamDecodes", spec := "gamDecodes", recurses := true, apart := false }
def GamDecodesSaid : Prop := gamDecodesRow.holds Try.pinned (OpenSpec.ofChange gamDecodesSpec)

/-- ITS FALSE NEIGHBOUR: 'it returns false'. Refute it at one input. -/
def gamDecodesWrong : ChangeSpec := { name := "gamDecodes", fn := fun _ => fun
  | [d1, d2] => { results := [.lit (.bool false)], args := [d1, d2] }
  | _ => none }
def GamDecodesWrongFalsely : Prop := gamDecodesRow.holds Try.pinned (OpenSpec.ofChange gamDecodesWrong)

/-- 'damasklaw.GamCosts': WHATEVER THE INPUT: true; the input reads as it did. -/
def gamCostsSpec : ChangeSpec := { name := "gamCosts", fn := fun _ => fun
  | [d1, d2] => { results := [.lit (.bool true)], args := [d1, d2] }
  | _ => none }
def gamCostsRow : OpenClaim := { program := "ytelcnkmgdohigaa", sum := "52d55ffb216a38b675daef1178abbd6f0466b8e5e1dbea231286cbe7355ff692", func := "damask/damasklaw.GamCosts", spec := "gamCosts", recurses := true, apart := false }
def GamCostsSaid : Prop := gamCostsRow.holds Try.pinned (OpenSpec.ofChange gamCostsSpec)

/-- ITS FALSE NEIGHBOUR: 'it returns false'. Refute it at one input. -/
def gamCostsWrong : ChangeSpec := { name := "gamCosts", fn := fun _ => fun
  | [d1, d2] => { results := [.lit (.bool false)], args := [d1, d2] }
  | _ => none }
def GamCostsWrongFalsely : Prop := gamCostsRow.holds Try.pinned (OpenSpec.ofChange gamCostsWrong)

/-- 'damaskkeep.GamBack': WHATEVER THE INPUT: true; the input reads as it did. -/
def gamBackSpec : ChangeSpec := { name := "gamBack", fn := fun _ => fun
  | [d1, d2] => { results := [.lit (.bool true)], args := [d1, d2] }
  | _ => none }
def gamBackRow : OpenClaim := { program := "ytelcnkmgdohigaa", sum := "52d55ffb216a38b675daef1178abbd6f0466b8e5e1dbea231286cbe7355ff692", func := "damask/damaskkeep.GamBack", spec := "gamBack", apart := false }
def GamBackSaid : Prop := gamBackRow.holds Try.pinned (OpenSpec.ofChange gamBackSpec)

/-- ITS FALSE NEIGHBOUR: 'it returns false'. Refute it at one input. -/
def gamBackWrong : ChangeSpec := { name := "gamBack", fn := fun _ => fun
  | [d1, d2] => { results := [.lit (.bool false)], args := [d1, d2] }
  | _ => none }
def GamBackWrongFalsely : Prop := gamBackRow.holds Try.pinned (OpenSpec.ofChange gamBackWrong)

/-- 'damaskkeep.GamPrefix': WHATEVER THE INPUT: true; the input reads as it did. -/
def gamPrefixSpec : ChangeSpec := { name := "gamPrefix", fn := fun _ => fun
  | [d1, d2, d3] => { results := [.lit (.bool true)], args := [d1, d2, d3] }
  | _ => none }
def gamPrefixRow : OpenClaim := { program := "ytelcnkmgdohigaa", sum := "52d55ffb216a38b675daef1178abbd6f0466b8e5e1dbea231286cbe7355ff692", func := "damask/damaskkeep.GamPrefix", spec := "gamPrefix", apart := false }
def GamPrefixSaid : Prop := gamPrefixRow.holds Try.pinned (OpenSpec.ofChange gamPrefixSpec)

/-- ITS FALSE NEIGHBOUR: 'it returns false'. Refute it at one input. -/
def gamPrefixWrong : ChangeSpec := { name := "gamPrefix", fn := fun _ => fun
  | [d1, d2, d3] => { results := [.lit (.bool false)], args := [d1, d2, d3] }
  | _ => none }
def GamPrefixWrongFalsely : Prop := gamPrefixRow.holds Try.pinned (OpenSpec.ofChange gamPrefixWrong)

/-- 'damaskkeep.GamLong': WHATEVER THE INPUT: true; the input reads as it did. -/
def gamLongSpec : ChangeSpec := { name := "gamLong", fn := fun _ => fun
  | [d] => { results := [.lit (.bool true)], args := [d] }
  | _ => none }
def gamLongRow : OpenClaim := { program := "ytelcnkmgdohigaa", sum := "52d55ffb216a38b675daef1178abbd6f0466b8e5e1dbea231286cbe7355ff692", func := "damask/damaskkeep.GamLong", spec := "gamLong", apart := false }
def GamLongSaid : Prop := gamLongRow.holds Try.pinned (OpenSpec.ofChange gamLongSpec)

/-- ITS FALSE NEIGHBOUR: 'it returns false'. Refute it at one input. -/
def gamLongWrong : ChangeSpec := { name := "gamLong", fn := fun _ => fun
  | [d] => { results := [.lit (.bool false)], args := [d] }
  | _ => none }
def GamLongWrongFalsely : Prop := gamLongRow.holds Try.pinned (OpenSpec.ofChange gamLongWrong)

/- THE SECOND FORM. 'bulk': how many values and letters a reading holds, each counted each time it is reached (what is shared counts as often as it is met; a slice's spare places count too). A statement '..UptoSaid' is the law's where the arguments, and the package variables that the reading takes, are together of bulk at most 1048576: NARROWER than '..Said'. Prove '..Said' where nothing that the law and all that it calls make is longer than what came in: it says more and counts as full. Else prove '..UptoSaid'. A law counts once. -/
mutual
def uptoBulk {H : Type} : DataW H → Nat
  | .lit (.string bytes) => bytes.length + 1
  | .lit _ => 1
  | .nil => 1
  | .ptr d => uptoBulk d + 1
  | .slice elems spare => uptoBulkAll elems + uptoBulkAll spare + 1
  | .agg parts => uptoBulkAll parts + 1
  | .iface _ d => uptoBulk d + 1
  | .map entries => uptoBulkEntries entries + 1
  | .held _ => 1
def uptoBulkAll {H : Type} : List (DataW H) → Nat
  | [] => 0
  | d :: r => uptoBulk d + uptoBulkAll r
def uptoBulkEntries {H : Type} : List (Lit × DataW H) → Nat
  | [] => 0
  | x :: r => uptoBulkEntry x + uptoBulkEntries r
def uptoBulkEntry {H : Type} : Lit × DataW H → Nat
  | (.string bytes, d) => bytes.length + uptoBulk d + 1
  | (_, d) => uptoBulk d + 1
 end
def uptoSmall : (H : Type) → List (DataW H) → Bool := fun _ ds => decide (uptoBulkAll ds ≤ 1048576)
def OpenSpec.upto (s : _root_.Go.ChangeSpec) : _root_.Go.OpenSpec := { _root_.Go.OpenSpec.ofChange s with cond := some uptoSmall }

/-- 'damasklaw.GamEncodes', WHERE WHAT IT READS IS OF BULK AT MOST 1048576: true; the input reads as it did. -/
def gamEncodesUptoRow : OpenClaim := { program := "ytelcnkmgdohigaa", sum := "52d55ffb216a38b675daef1178abbd6f0466b8e5e1dbea231286cbe7355ff692", func := "damask/damasklaw.GamEncodes", spec := "gamEncodes", recurses := true, apart := false, narrowed := true }
def GamEncodesUptoSaid : Prop := gamEncodesUptoRow.holds Try.pinned (OpenSpec.upto gamEncodesSpec)

/-- 'damasklaw.GamDecodes', WHERE WHAT IT READS IS OF BULK AT MOST 1048576: true; the input reads as it did. -/
def gamDecodesUptoRow : OpenClaim := { program := "ytelcnkmgdohigaa", sum := "52d55ffb216a38b675daef1178abbd6f0466b8e5e1dbea231286cbe7355ff692", func := "damask/damasklaw.GamDecodes", spec := "gamDecodes", recurses := true, apart := false, narrowed := true }
def GamDecodesUptoSaid : Prop := gamDecodesUptoRow.holds Try.pinned (OpenSpec.upto gamDecodesSpec)

/-- 'damasklaw.GamCosts', WHERE WHAT IT READS IS OF BULK AT MOST 1048576: true; the input reads as it did. -/
def gamCostsUptoRow : OpenClaim := { program := "ytelcnkmgdohigaa", sum := "52d55ffb216a38b675daef1178abbd6f0466b8e5e1dbea231286cbe7355ff692", func := "damask/damasklaw.GamCosts", spec := "gamCosts", recurses := true, apart := false, narrowed := true }
def GamCostsUptoSaid : Prop := gamCostsUptoRow.holds Try.pinned (OpenSpec.upto gamCostsSpec)

/-- 'damaskkeep.GamBack', WHERE WHAT IT READS IS OF BULK AT MOST 1048576: true; the input reads as it did. -/
def gamBackUptoRow : OpenClaim := { program := "ytelcnkmgdohigaa", sum := "52d55ffb216a38b675daef1178abbd6f0466b8e5e1dbea231286cbe7355ff692", func := "damask/damaskkeep.GamBack", spec := "gamBack", apart := false, narrowed := true }
def GamBackUptoSaid : Prop := gamBackUptoRow.holds Try.pinned (OpenSpec.upto gamBackSpec)

/-- 'damaskkeep.GamPrefix', WHERE WHAT IT READS IS OF BULK AT MOST 1048576: true; the input reads as it did. -/
def gamPrefixUptoRow : OpenClaim := { program := "ytelcnkmgdohigaa", sum := "52d55ffb216a38b675daef1178abbd6f0466b8e5e1dbea231286cbe7355ff692", func := "damask/damaskkeep.GamPrefix", spec := "gamPrefix", apart := false, narrowed := true }
def GamPrefixUptoSaid : Prop := gamPrefixUptoRow.holds Try.pinned (OpenSpec.upto gamPrefixSpec)

/-- 'damaskkeep.GamLong', WHERE WHAT IT READS IS OF BULK AT MOST 1048576: true; the input reads as it did. -/
def gamLongUptoRow : OpenClaim := { program := "ytelcnkmgdohigaa", sum := "52d55ffb216a38b675daef1178abbd6f0466b8e5e1dbea231286cbe7355ff692", func := "damask/damaskkeep.GamLong", spec := "gamLong", apart := false, narrowed := true }
def GamLongUptoSaid : Prop := gamLongUptoRow.holds Try.pinned (OpenSpec.upto gamLongSpec)

end Rows
end Go.Proofs.Ytelcnkmgdohigaa
