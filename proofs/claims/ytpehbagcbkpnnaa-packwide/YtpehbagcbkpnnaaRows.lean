/-
  No cell of these rows narrows 'for every input' (looked for: loops, veiled, ifaces, maps, wideKeys, modest, calm, conditions, laid).
  DERIVED. THE GIVEN ROWS OF THIS SEAT. 6 by the template 'for every input the law returns true; each argument reads behind the call as it read before'; 0 by the template 'total and deterministic' (their statements: YtpehbagcbkpnnaaTotals.lean).
  GIVEN WITH THE SEED: the statements are not yours to turn. If you find one false, say at which input.
  Laid BY PROGRAM, IN A SANDBOX (cutbox-rows.mjs): the forced cells as the released guide's own fill.sh prints them over the translation 9ed53f92e5b699bf… (all of the seat's roots in one cut). By AI agents, Wed Nov 11 2026. No macro, syntax, notation, axiom, sorry.
-/
import Derived.Test.YtpehbagcbkpnnaaChecked
import GoSem.Claim
import GoSem.ClaimJoined
import GoSem.ClaimMapViews
import Derived.JoinedTies
import Derived.KernelRfl
namespace Go.Proofs.Ytpehbagcbkpnnaa
/- THE CELL 'sum', in the pinned program and in every row, IS THE sha256 OF THE DUMP (.gsa) THAT YtpehbagcbkpnnaaProg.lean LOADS. Nothing in Lean hashes anything: it is a label: what it is worth is what the hold of that sum in a sandbox is worth. -/
noncomputable def Try.pinned : Pinned := { name := "ytpehbagcbkpnnaa", sum := "9ed53f92e5b699bfcc7fd83fa2c9c0bcaab6a90b16796ac4d738c4b6cef813e4", checked := Try.checked }
namespace Rows
def none {H : Type} : Left H := { results := [], args := [] }

/-- 'damasklaw.PackMakes': WHATEVER THE INPUT: true; the input reads as it did. -/
def packMakesSpec : ChangeSpec := { name := "packMakes", fn := fun _ => fun
  | [d1, d2] => { results := [.lit (.bool true)], args := [d1, d2] }
  | _ => none }
def packMakesRow : OpenClaim := { program := "ytpehbagcbkpnnaa", sum := "9ed53f92e5b699bfcc7fd83fa2c9c0bcaab6a90b16796ac4d738c4b6cef813e4", func := "damask/damasklaw.PackMakes", spec := "packMakes", apart := false }
def PackMakesSaid : Prop := packMakesRow.holds Try.pinned (OpenSpec.ofChange packMakesSpec)

/-- ITS FALSE NEIGHBOUR: 'it returns false'. Refute it at one input. -/
def packMakesWrong : ChangeSpec := { name := "packMakes", fn := fun _ => fun
  | [d1, d2] => { results := [.lit (.bool false)], args := [d1, d2] }
  | _ => none }
def PackMakesWrongFalsely : Prop := packMakesRow.holds Try.pinned (OpenSpec.ofChange packMakesWrong)

/-- 'damasklaw.PackMays': WHATEVER THE INPUT: true; the input reads as it did. -/
def packMaysSpec : ChangeSpec := { name := "packMays", fn := fun _ => fun
  | [d] => { results := [.lit (.bool true)], args := [d] }
  | _ => none }
def packMaysRow : OpenClaim := { program := "ytpehbagcbkpnnaa", sum := "9ed53f92e5b699bfcc7fd83fa2c9c0bcaab6a90b16796ac4d738c4b6cef813e4", func := "damask/damasklaw.PackMays", spec := "packMays", apart := false }
def PackMaysSaid : Prop := packMaysRow.holds Try.pinned (OpenSpec.ofChange packMaysSpec)

/-- ITS FALSE NEIGHBOUR: 'it returns false'. Refute it at one input. -/
def packMaysWrong : ChangeSpec := { name := "packMays", fn := fun _ => fun
  | [d] => { results := [.lit (.bool false)], args := [d] }
  | _ => none }
def PackMaysWrongFalsely : Prop := packMaysRow.holds Try.pinned (OpenSpec.ofChange packMaysWrong)

/-- 'damasklaw.PackAts': WHATEVER THE INPUT: true; the input reads as it did. -/
def packAtsSpec : ChangeSpec := { name := "packAts", fn := fun _ => fun
  | [d1, d2] => { results := [.lit (.bool true)], args := [d1, d2] }
  | _ => none }
def packAtsRow : OpenClaim := { program := "ytpehbagcbkpnnaa", sum := "9ed53f92e5b699bfcc7fd83fa2c9c0bcaab6a90b16796ac4d738c4b6cef813e4", func := "damask/damasklaw.PackAts", spec := "packAts", apart := false }
def PackAtsSaid : Prop := packAtsRow.holds Try.pinned (OpenSpec.ofChange packAtsSpec)

/-- ITS FALSE NEIGHBOUR: 'it returns false'. Refute it at one input. -/
def packAtsWrong : ChangeSpec := { name := "packAts", fn := fun _ => fun
  | [d1, d2] => { results := [.lit (.bool false)], args := [d1, d2] }
  | _ => none }
def PackAtsWrongFalsely : Prop := packAtsRow.holds Try.pinned (OpenSpec.ofChange packAtsWrong)

/-- 'damasklaw.PackWides': WHATEVER THE INPUT: true; the input reads as it did. -/
def packWidesSpec : ChangeSpec := { name := "packWides", fn := fun _ => fun
  | [d] => { results := [.lit (.bool true)], args := [d] }
  | _ => none }
def packWidesRow : OpenClaim := { program := "ytpehbagcbkpnnaa", sum := "9ed53f92e5b699bfcc7fd83fa2c9c0bcaab6a90b16796ac4d738c4b6cef813e4", func := "damask/damasklaw.PackWides", spec := "packWides", apart := false }
def PackWidesSaid : Prop := packWidesRow.holds Try.pinned (OpenSpec.ofChange packWidesSpec)

/-- ITS FALSE NEIGHBOUR: 'it returns false'. Refute it at one input. -/
def packWidesWrong : ChangeSpec := { name := "packWides", fn := fun _ => fun
  | [d] => { results := [.lit (.bool false)], args := [d] }
  | _ => none }
def PackWidesWrongFalsely : Prop := packWidesRow.holds Try.pinned (OpenSpec.ofChange packWidesWrong)

/-- 'damaskkeep.PackBack': WHATEVER THE INPUT: true; the input reads as it did. -/
def packBackSpec : ChangeSpec := { name := "packBack", fn := fun _ => fun
  | [d1, d2] => { results := [.lit (.bool true)], args := [d1, d2] }
  | _ => none }
def packBackRow : OpenClaim := { program := "ytpehbagcbkpnnaa", sum := "9ed53f92e5b699bfcc7fd83fa2c9c0bcaab6a90b16796ac4d738c4b6cef813e4", func := "damask/damaskkeep.PackBack", spec := "packBack", apart := false }
def PackBackSaid : Prop := packBackRow.holds Try.pinned (OpenSpec.ofChange packBackSpec)

/-- ITS FALSE NEIGHBOUR: 'it returns false'. Refute it at one input. -/
def packBackWrong : ChangeSpec := { name := "packBack", fn := fun _ => fun
  | [d1, d2] => { results := [.lit (.bool false)], args := [d1, d2] }
  | _ => none }
def PackBackWrongFalsely : Prop := packBackRow.holds Try.pinned (OpenSpec.ofChange packBackWrong)

/-- 'damaskkeep.PackWide': WHATEVER THE INPUT: true; the input reads as it did. -/
def packWideSpec : ChangeSpec := { name := "packWide", fn := fun _ => fun
  | [d1, d2] => { results := [.lit (.bool true)], args := [d1, d2] }
  | _ => none }
def packWideRow : OpenClaim := { program := "ytpehbagcbkpnnaa", sum := "9ed53f92e5b699bfcc7fd83fa2c9c0bcaab6a90b16796ac4d738c4b6cef813e4", func := "damask/damaskkeep.PackWide", spec := "packWide", apart := false }
def PackWideSaid : Prop := packWideRow.holds Try.pinned (OpenSpec.ofChange packWideSpec)

/-- ITS FALSE NEIGHBOUR: 'it returns false'. Refute it at one input. -/
def packWideWrong : ChangeSpec := { name := "packWide", fn := fun _ => fun
  | [d1, d2] => { results := [.lit (.bool false)], args := [d1, d2] }
  | _ => none }
def PackWideWrongFalsely : Prop := packWideRow.holds Try.pinned (OpenSpec.ofChange packWideWrong)

/- THE SECOND FORM. 'bulk': how many values and letters a reading holds, each counted each time it is reached (what is shared counts as often as it is met; a slice's spare places count too). A statement '..UptoSaid' is the law's where the arguments, and the package variables that the reading takes, are together of bulk at most 1048576: NARROWER than '..Said'. Prove '..Said' where nothing that the law and all that it calls make is longer than what came in: it says more and counts as full. Else prove '..UptoSaid'. A law counts once. -/
mutual
def uptoBulk {H : Type} : DataW H → Nat
  | .lit (.string bytes) => bytes.length + 1
  | .lit _ => 1
  | .nil => 1
  | .ptr d => uptoBulk d + 1
  | .slice elems spare => uptoBulkAll elems + uptoBulkAll spare + 1
  | .agg parts => uptoBulkAll parts + 1
  | .iface _ d => uptoBulk d + 1
  | .map entries => uptoBulkEntries entries + 1
  | .held _ => 1
def uptoBulkAll {H : Type} : List (DataW H) → Nat
  | [] => 0
  | d :: r => uptoBulk d + uptoBulkAll r
def uptoBulkEntries {H : Type} : List (Lit × DataW H) → Nat
  | [] => 0
  | x :: r => uptoBulkEntry x + uptoBulkEntries r
def uptoBulkEntry {H : Type} : Lit × DataW H → Nat
  | (.string bytes, d) => bytes.length + uptoBulk d + 1
  | (_, d) => uptoBulk d + 1
 end
def uptoSmall : (H : Type) → List (DataW H) → Bool := fun _ ds => decide (uptoBulkAll ds ≤ 1048576)
def OpenSpec.upto (s : _root_.Go.ChangeSpec) : _root_.Go.OpenSpec := { _root_.Go.OpenSpec.ofChange s with cond := some uptoSmall }

/-- 'damasklaw.PackMakes', WHERE WHAT IT READS IS OF BULK AT MOST 1048576: true; the input reads as it did. -/
def packMakesUptoRow : OpenClaim := { program := "ytpehbagcbkpnnaa", sum := "9ed53f92e5b699bfcc7fd83fa2c9c0bcaab6a90b16796ac4d738c4b6cef813e4", func := "damask/damasklaw.PackMakes", spec := "packMakes", apart := false, narrowed := true }
def PackMakesUptoSaid : Prop := packMakesUptoRow.holds Try.pinned (OpenSpec.upto packMakesSpec)

/-- 'damasklaw.PackMays', WHERE WHAT IT READS IS OF BULK AT MOST 1048576: true; the input reads as it did. -/
def packMaysUptoRow : OpenClaim := { program := "ytpehbagcbkpnnaa", sum := "9ed53f92e5b699bfcc7fd83fa2c9c0bcaab6a90b16796ac4d738c4b6cef813e4", func := "damask/damasklaw.PackMays", spec := "packMays", apart := false, narrowed := true }
def PackMaysUptoSaid : Prop := packMaysUptoRow.holds Try.pinned (OpenSpec.upto packMaysSpec)

/-- 'damasklaw.PackAts', WHERE WHAT IT READS IS OF BULK AT MOST 1048576: true; the input reads as it did. -/
def packAtsUptoRow : OpenClaim := { program := "ytpehbagcbkpnnaa", sum := "9ed53f92e5b699bfcc7fd83fa2c9c0bcaab6a90b16796ac4d738c4b6cef813e4", func := "damask/damasklaw.PackAts", spec := "packAts", apart := false, narrowed := true }
def PackAtsUptoSaid : Prop := packAtsUptoRow.holds Try.pinned (OpenSpec.upto packAtsSpec)

/-- 'damasklaw.PackWides', WHERE WHAT IT READS IS OF BULK AT MOST 1048576: true; the input reads as it did. -/
def packWidesUptoRow : OpenClaim := { program := "ytpehbagcbkpnnaa", sum := "9ed53f92e5b699bfcc7fd83fa2c9c0bcaab6a90b16796ac4d738c4b6cef813e4", func := "damask/damasklaw.PackWides", spec := "packWides", apart := false, narrowed := true }
def PackWidesUptoSaid : Prop := packWidesUptoRow.holds Try.pinned (OpenSpec.upto packWidesSpec)

/-- 'damaskkeep.PackBack', WHERE WHAT IT READS IS OF BULK AT MOST 1048576: true; the input reads as it did. -/
def packBackUptoRow : OpenClaim := { program := "ytpehbagcbkpnnaa", sum := "9ed53f92e5b699bfcc7fd83fa2c9c0bcaab6a90b16796ac4d738c4b6cef813e4", func := "damask/damaskkeep.PackBack", spec := "packBack", apart := false, narrowed := true }
def PackBackUptoSaid : Prop := packBackUptoRow.holds Try.pinned (OpenSpec.upto packBackSpec)

/-- 'damaskkeep.PackWide', WHERE WHAT IT READS IS OF BULK AT MOST 1048576: true; the input reads as it did. -/
def packWideUptoRow : OpenClaim := { program := "ytpehbagcbkpnnaa", sum := "9ed53f92e5b699bfcc7fd83fa2c9c0bcaab6a90b16796ac4d738c4b6cef813e4", func := "damask/damaskkeep.PackWide", spec := "packWide", apart := false, narrowed := true }
def PackWideUptoSaid : Prop := packWideUptoRow.holds Try.pinned (OpenSpec.upto packWideSpec)

end Rows
end Go.Proofs.Ytpehbagcbkpnnaa
