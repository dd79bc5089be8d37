/-
  No cell of these rows narrows 'for every input' (looked for: loops, veiled, ifaces, maps, wideKeys, modest, calm, conditions, laid).
  DERIVED. THE GIVEN ROWS OF THIS SEAT. 8 by the template 'for every input the law returns true; each argument reads behind the call as it read before'; 0 by the template 'total and deterministic' (their statements: YtdpcnbehjgpgeaaTotals.lean).
  GIVEN WITH THE SEED: the statements are not yours to turn. If you find one false, say at which input.
  Laid BY PROGRAM, IN A SANDBOX (cutbox-rows.mjs): the forced cells as the released guide's own fill.sh prints them over the translation 068924688fa906d7… (all of the seat's roots in one cut). By AI agents, Wed Nov 11 2026. No macro, syntax, notation, axiom, sorry.
-/
import Derived.Test.YtdpcnbehjgpgeaaChecked
import GoSem.Claim
import GoSem.ClaimJoined
import GoSem.ClaimMapViews
import Derived.JoinedTies
import Derived.KernelRfl
namespace Go.Proofs.Ytdpcnbehjgpgeaa
/- THE CELL 'sum', in the pinned program and in every row, IS THE sha256 OF THE DUMP (.gsa) THAT YtdpcnbehjgpgeaaProg.lean LOADS. Nothing in Lean hashes anything: it is a label: what it is worth is what the hold of that sum in a sandbox is worth. -/
noncomputable def Try.pinned : Pinned := { name := "ytdpcnbehjgpgeaa", sum := "068924688fa906d7da3a8ec0aeb6648581ce21a36286898227822497e50c0334", checked := Try.checked }
namespace Rows
def none {H : Type} : Left H := { results := [], args := [] }

/-- 'damasklaw.ParenChecks': WHATEVER THE INPUT: true; the input reads as it did. -/
def parenChecksSpec : ChangeSpec := { name := "parenChecks", fn := fun _ => fun
  | [d] => { results := [.lit (.bool true)], args := [d] }
  | _ => none }
def parenChecksRow : OpenClaim := { program := "ytdpcnbehjgpgeaa", sum := "068924688fa906d7da3a8ec0aeb6648581ce21a36286898227822497e50c0334", func := "damask/damasklaw.ParenChecks", spec := "parenChecks", apart := false }
def ParenChecksSaid : Prop := parenChecksRow.holds Try.pinned (OpenSpec.ofChange parenChecksSpec)

/-- ITS FALSE NEIGHBOUR: 'it returns false'. Refute it at one input. -/
def parenChecksWrong : ChangeSpec := { name := "parenChecks", fn := fun _ => fun
  | [d] => { results := [.lit (.bool false)], args := [d] }
  | _ => none }
def ParenChecksWrongFalsely : Prop := parenChecksRow.holds Try.pinned (OpenSpec.ofChange parenChecksWrong)

/-- 'damasklaw.ParenMatches': WHATEVER THE INPUT: true; the input reads as it did. -/
def parenMatchesSpec : ChangeSpec := { name := "parenMatches", fn := fun _ => fun
  | [d1, d2] => { results := [.lit (.bool true)], args := [d1, d2] }
  | _ => none }
def parenMatchesRow : OpenClaim := { program := "ytdpcnbehjgpgeaa", sum := "068924688fa906d7da3a8ec0aeb6648581ce21a36286898227822497e50c0334", func := "damask/damasklaw.ParenMatches", spec := "parenMatches", apart := false }
def ParenMatchesSaid : Prop := parenMatchesRow.holds Try.pinned (OpenSpec.ofChange parenMatchesSpec)

/-- ITS FALSE NEIGHBOUR: 'it returns false'. Refute it at one input. -/
def parenMatchesWrong : ChangeSpec := { name := "parenMatches", fn := fun _ => fun
  | [d1, d2] => { results := [.lit (.bool false)], args := [d1, d2] }
  | _ => none }
def ParenMatchesWrongFalsely : Prop := parenMatchesRow.holds Try.pinned (OpenSpec.ofChange parenMatchesWrong)

/-- 'damasklaw.ParenEncloses': WHATEVER THE INPUT: true; the input reads as it did. -/
def parenEnclosesSpec : ChangeSpec := { name := "parenEncloses", fn := fun _ => fun
  | [d1, d2] => { results := [.lit (.bool true)], args := [d1, d2] }
  | _ => none }
def parenEnclosesRow : OpenClaim := { program := "ytdpcnbehjgpgeaa", sum := "068924688fa906d7da3a8ec0aeb6648581ce21a36286898227822497e50c0334", func := "damask/damasklaw.ParenEncloses", spec := "parenEncloses", apart := false }
def ParenEnclosesSaid : Prop := parenEnclosesRow.holds Try.pinned (OpenSpec.ofChange parenEnclosesSpec)

/-- ITS FALSE NEIGHBOUR: 'it returns false'. Refute it at one input. -/
def parenEnclosesWrong : ChangeSpec := { name := "parenEncloses", fn := fun _ => fun
  | [d1, d2] => { results := [.lit (.bool false)], args := [d1, d2] }
  | _ => none }
def ParenEnclosesWrongFalsely : Prop := parenEnclosesRow.holds Try.pinned (OpenSpec.ofChange parenEnclosesWrong)

/-- 'damasklaw.ParenTrees': WHATEVER THE INPUT: true; the input reads as it did. -/
def parenTreesSpec : ChangeSpec := { name := "parenTrees", fn := fun _ => fun
  | [d] => { results := [.lit (.bool true)], args := [d] }
  | _ => none }
def parenTreesRow : OpenClaim := { program := "ytdpcnbehjgpgeaa", sum := "068924688fa906d7da3a8ec0aeb6648581ce21a36286898227822497e50c0334", func := "damask/damasklaw.ParenTrees", spec := "parenTrees", apart := false }
def ParenTreesSaid : Prop := parenTreesRow.holds Try.pinned (OpenSpec.ofChange parenTreesSpec)

/-- ITS FALSE NEIGHBOUR: 'it returns false'. Refute it at one input. -/
def parenTreesWrong : ChangeSpec := { name := "parenTrees", fn := fun _ => fun
  | [d] => { results := [.lit (.bool false)], args := [d] }
  | _ => none }
def ParenTreesWrongFalsely : Prop := parenTreesRow.holds Try.pinned (OpenSpec.ofChange parenTreesWrong)

/-- 'damasklaw.ParenTexts': WHATEVER THE INPUT: true; the input reads as it did. -/
def parenTextsSpec : ChangeSpec := { name := "parenTexts", fn := fun _ => fun
  | [d] => { results := [.lit (.bool true)], args := [d] }
  | _ => none }
def parenTextsRow : OpenClaim := { program := "ytdpcnbehjgpgeaa", sum := "068924688fa906d7da3a8ec0aeb6648581ce21a36286898227822497e50c0334", func := "damask/damasklaw.ParenTexts", spec := "parenTexts", inPlace := ["internal/abi.NoEscape", "internal/bytealg.MakeNoZero"], apart := false }
def ParenTextsSaid : Prop := parenTextsRow.holds Try.pinned (OpenSpec.ofChange parenTextsSpec)

/-- ITS FALSE NEIGHBOUR: 'it returns false'. Refute it at one input. -/
def parenTextsWrong : ChangeSpec := { name := "parenTexts", fn := fun _ => fun
  | [d] => { results := [.lit (.bool false)], args := [d] }
  | _ => none }
def ParenTextsWrongFalsely : Prop := parenTextsRow.holds Try.pinned (OpenSpec.ofChange parenTextsWrong)

/-- 'damaskkeep.ParenBack': WHATEVER THE INPUT: true; the input reads as it did. -/
def parenBackSpec : ChangeSpec := { name := "parenBack", fn := fun _ => fun
  | [d] => { results := [.lit (.bool true)], args := [d] }
  | _ => none }
def parenBackRow : OpenClaim := { program := "ytdpcnbehjgpgeaa", sum := "068924688fa906d7da3a8ec0aeb6648581ce21a36286898227822497e50c0334", func := "damask/damaskkeep.ParenBack", spec := "parenBack", inPlace := ["internal/abi.NoEscape", "internal/bytealg.MakeNoZero"], apart := false }
def ParenBackSaid : Prop := parenBackRow.holds Try.pinned (OpenSpec.ofChange parenBackSpec)

/-- ITS FALSE NEIGHBOUR: 'it returns false'. Refute it at one input. -/
def parenBackWrong : ChangeSpec := { name := "parenBack", fn := fun _ => fun
  | [d] => { results := [.lit (.bool false)], args := [d] }
  | _ => none }
def ParenBackWrongFalsely : Prop := parenBackRow.holds Try.pinned (OpenSpec.ofChange parenBackWrong)

/-- 'damaskkeep.MatchTwice': WHATEVER THE INPUT: true; the input reads as it did. -/
def matchTwiceSpec : ChangeSpec := { name := "matchTwice", fn := fun _ => fun
  | [d1, d2] => { results := [.lit (.bool true)], args := [d1, d2] }
  | _ => none }
def matchTwiceRow : OpenClaim := { program := "ytdpcnbehjgpgeaa", sum := "068924688fa906d7da3a8ec0aeb6648581ce21a36286898227822497e50c0334", func := "damask/damaskkeep.MatchTwice", spec := "matchTwice", apart := false }
def MatchTwiceSaid : Prop := matchTwiceRow.holds Try.pinned (OpenSpec.ofChange matchTwiceSpec)

/-- ITS FALSE NEIGHBOUR: 'it returns false'. Refute it at one input. -/
def matchTwiceWrong : ChangeSpec := { name := "matchTwice", fn := fun _ => fun
  | [d1, d2] => { results := [.lit (.bool false)], args := [d1, d2] }
  | _ => none }
def MatchTwiceWrongFalsely : Prop := matchTwiceRow.holds Try.pinned (OpenSpec.ofChange matchTwiceWrong)

/-- 'damaskkeep.EncloseUp': WHATEVER THE INPUT: true; the input reads as it did. -/
def encloseUpSpec : ChangeSpec := { name := "encloseUp", fn := fun _ => fun
  | [d1, d2] => { results := [.lit (.bool true)], args := [d1, d2] }
  | _ => none }
def encloseUpRow : OpenClaim := { program := "ytdpcnbehjgpgeaa", sum := "068924688fa906d7da3a8ec0aeb6648581ce21a36286898227822497e50c0334", func := "damask/damaskkeep.EncloseUp", spec := "encloseUp", apart := false }
def EncloseUpSaid : Prop := encloseUpRow.holds Try.pinned (OpenSpec.ofChange encloseUpSpec)

/-- ITS FALSE NEIGHBOUR: 'it returns false'. Refute it at one input. -/
def encloseUpWrong : ChangeSpec := { name := "encloseUp", fn := fun _ => fun
  | [d1, d2] => { results := [.lit (.bool false)], args := [d1, d2] }
  | _ => none }
def EncloseUpWrongFalsely : Prop := encloseUpRow.holds Try.pinned (OpenSpec.ofChange encloseUpWrong)

/- THE SECOND FORM. 'bulk': how many values and letters a reading holds, each counted each time it is reached (what is shared counts as often as it is met; a slice's spare places count too). A statement '..UptoSaid' is the law's where the arguments, and the package variables that the reading takes, are together of bulk at most 1048576: NARROWER than '..Said'. Prove '..Said' where nothing that the law and all that it calls make is longer than what came in: it says more and counts as full. Else prove '..UptoSaid'. A law counts once. -/
mutual
def uptoBulk {H : Type} : DataW H → Nat
  | .lit (.string bytes) => bytes.length + 1
  | .lit _ => 1
  | .nil => 1
  | .ptr d => uptoBulk d + 1
  | .slice elems spare => uptoBulkAll elems + uptoBulkAll spare + 1
  | .agg parts => uptoBulkAll parts + 1
  | .iface _ d => uptoBulk d + 1
  | .map entries => uptoBulkEntries entries + 1
  | .held _ => 1
def uptoBulkAll {H : Type} : List (DataW H) → Nat
  | [] => 0
  | d :: r => uptoBulk d + uptoBulkAll r
def uptoBulkEntries {H : Type} : List (Lit × DataW H) → Nat
  | [] => 0
  | x :: r => uptoBulkEntry x + uptoBulkEntries r
def uptoBulkEntry {H : Type} : Lit × DataW H → Nat
  | (.string bytes, d) => bytes.length + uptoBulk d + 1
  | (_, d) => uptoBulk d + 1
 end
def uptoSmall : (H : Type) → List (DataW H) → Bool := fun _ ds => decide (uptoBulkAll ds ≤ 1048576)
def OpenSpec.upto (s : _root_.Go.ChangeSpec) : _root_.Go.OpenSpec := { _root_.Go.OpenSpec.ofChange s with cond := some uptoSmall }

/-- 'damasklaw.ParenChecks', WHERE WHAT IT READS IS OF BULK AT MOST 1048576: true; the input reads as it did. -/
def parenChecksUptoRow : OpenClaim := { program := "ytdpcnbehjgpgeaa", sum := "068924688fa906d7da3a8ec0aeb6648581ce21a36286898227822497e50c0334", func := "damask/damasklaw.ParenChecks", spec := "parenChecks", apart := false, narrowed := true }
def ParenChecksUptoSaid : Prop := parenChecksUptoRow.holds Try.pinned (OpenSpec.upto parenChecksSpec)

/-- 'damasklaw.ParenMatches', WHERE WHAT IT READS IS OF BULK AT MOST 1048576: true; the input reads as it did. -/
def parenMatchesUptoRow : OpenClaim := { program := "ytdpcnbehjgpgeaa", sum := "068924688fa906d7da3a8ec0aeb6648581ce21a36286898227822497e50c0334", func := "damask/damasklaw.ParenMatches", spec := "parenMatches", apart := false, narrowed := true }
def ParenMatchesUptoSaid : Prop := parenMatchesUptoRow.holds Try.pinned (OpenSpec.upto parenMatchesSpec)

/-- 'damasklaw.ParenEncloses', WHERE WHAT IT READS IS OF BULK AT MOST 1048576: true; the input reads as it did. -/
def parenEnclosesUptoRow : OpenClaim := { program := "ytdpcnbehjgpgeaa", sum := "068924688fa906d7da3a8ec0aeb6648581ce21a36286898227822497e50c0334", func := "damask/damasklaw.ParenEncloses", spec := "parenEncloses", apart := false, narrowed := true }
def ParenEnclosesUptoSaid : Prop := parenEnclosesUptoRow.holds Try.pinned (OpenSpec.upto parenEnclosesSpec)

/-- 'damasklaw.ParenTrees', WHERE WHAT IT READS IS OF BULK AT MOST 1048576: true; the input reads as it did. -/
def parenTreesUptoRow : OpenClaim := { program := "ytdpcnbehjgpgeaa", sum := "068924688fa906d7da3a8ec0aeb6648581ce21a36286898227822497e50c0334", func := "damask/damasklaw.ParenTrees", spec := "parenTrees", apart := false, narrowed := true }
def ParenTreesUptoSaid : Prop := parenTreesUptoRow.holds Try.pinned (OpenSpec.upto parenTreesSpec)

/-- 'damasklaw.ParenTexts', WHERE WHAT IT READS IS OF BULK AT MOST 1048576: true; the input reads as it did. -/
def parenTextsUptoRow : OpenClaim := { program := "ytdpcnbehjgpgeaa", sum := "068924688fa906d7da3a8ec0aeb6648581ce21a36286898227822497e50c0334", func := "damask/damasklaw.ParenTexts", spec := "parenTexts", inPlace := ["internal/abi.NoEscape", "internal/bytealg.MakeNoZero"], apart := false, narrowed := true }
def ParenTextsUptoSaid : Prop := parenTextsUptoRow.holds Try.pinned (OpenSpec.upto parenTextsSpec)

/-- 'damaskkeep.ParenBack', WHERE WHAT IT READS IS OF BULK AT MOST 1048576: true; the input reads as it did. -/
def parenBackUptoRow : OpenClaim := { program := "ytdpcnbehjgpgeaa", sum := "068924688fa906d7da3a8ec0aeb6648581ce21a36286898227822497e50c0334", func := "damask/damaskkeep.ParenBack", spec := "parenBack", inPlace := ["internal/abi.NoEscape", "internal/bytealg.MakeNoZero"], apart := false, narrowed := true }
def ParenBackUptoSaid : Prop := parenBackUptoRow.holds Try.pinned (OpenSpec.upto parenBackSpec)

/-- 'damaskkeep.MatchTwice', WHERE WHAT IT READS IS OF BULK AT MOST 1048576: true; the input reads as it did. -/
def matchTwiceUptoRow : OpenClaim := { program := "ytdpcnbehjgpgeaa", sum := "068924688fa906d7da3a8ec0aeb6648581ce21a36286898227822497e50c0334", func := "damask/damaskkeep.MatchTwice", spec := "matchTwice", apart := false, narrowed := true }
def MatchTwiceUptoSaid : Prop := matchTwiceUptoRow.holds Try.pinned (OpenSpec.upto matchTwiceSpec)

/-- 'damaskkeep.EncloseUp', WHERE WHAT IT READS IS OF BULK AT MOST 1048576: true; the input reads as it did. -/
def encloseUpUptoRow : OpenClaim := { program := "ytdpcnbehjgpgeaa", sum := "068924688fa906d7da3a8ec0aeb6648581ce21a36286898227822497e50c0334", func := "damask/damaskkeep.EncloseUp", spec := "encloseUp", apart := false, narrowed := true }
def EncloseUpUptoSaid : Prop := encloseUpUptoRow.holds Try.pinned (OpenSpec.upto encloseUpSpec)

end Rows
end Go.Proofs.Ytdpcnbehjgpgeaa
