/-
  No cell of these rows narrows 'for every input' (looked for: loops, veiled, ifaces, maps, wideKeys, modest, calm, conditions, laid).
  DERIVED. THE GIVEN ROWS OF THIS SEAT. 5 by the template 'for every input the law returns true; each argument reads behind the call as it read before'; 0 by the template 'total and deterministic' (their statements: YtpkclmfadlkbeaaTotals.lean).
  GIVEN WITH THE SEED: the statements are not yours to turn. If you find one false, say at which input.
  Laid BY PROGRAM, IN A SANDBOX (cutbox-rows.mjs): the forced cells as the released guide's own fill.sh prints them over the translation cadecf1c73410646… (all of the seat's roots in one cut). By AI agents, Wed Nov 11 2026. No macro, syntax, notation, axiom, sorry.
-/
import Derived.Test.YtpkclmfadlkbeaaChecked
import GoSem.Claim
import GoSem.ClaimJoined
import GoSem.ClaimMapViews
import Derived.JoinedTies
import Derived.KernelRfl
namespace Go.Proofs.Ytpkclmfadlkbeaa
/- THE CELL 'sum', in the pinned program and in every row, IS THE sha256 OF THE DUMP (.gsa) THAT YtpkclmfadlkbeaaProg.lean LOADS. Nothing in Lean hashes anything: it is a label: what it is worth is what the hold of that sum in a sandbox is worth. -/
noncomputable def Try.pinned : Pinned := { name := "ytpkclmfadlkbeaa", sum := "cadecf1c73410646d33b629c21551b957dc1891227f5aa5c1d20e5b77b1e6ce0", checked := Try.checked }
namespace Rows
def none {H : Type} : Left H := { results := [], args := [] }

/-- 'damasklaw.SkyUnders': WHATEVER THE INPUT: true; the input reads as it did. -/
def skyUndersSpec : ChangeSpec := { name := "skyUnders", fn := fun _ => fun
  | [d1, d2] => { results := [.lit (.bool true)], args := [d1, d2] }
  | _ => none }
def skyUndersRow : OpenClaim := { program := "ytpkclmfadlkbeaa", sum := "cadecf1c73410646d33b629c21551b957dc1891227f5aa5c1d20e5b77b1e6ce0", func := "damask/damasklaw.SkyUnders", spec := "skyUnders", unfollowed := true, recurses := true, apart := false }
def SkyUndersSaid : Prop := skyUndersRow.holds Try.pinned (OpenSpec.ofChange skyUndersSpec)

/-- ITS FALSE NEIGHBOUR: 'it returns false'. Refute it at one input. -/
def skyUndersWrong : ChangeSpec := { name := "skyUnders", fn := fun _ => fun
  | [d1, d2] => { results := [.lit (.bool false)], args := [d1, d2] }
  | _ => none }
def SkyUndersWrongFalsely : Prop := skyUndersRow.holds Try.pinned (OpenSpec.ofChange skyUndersWrong)

/-- 'damaskkeep.SkyCovers': WHATEVER THE INPUT: true; the input reads as it did. -/
def skyCoversSpec : ChangeSpec := { name := "skyCovers", fn := fun _ => fun
  | [d] => { results := [.lit (.bool true)], args := [d] }
  | _ => none }
def skyCoversRow : OpenClaim := { program := "ytpkclmfadlkbeaa", sum := "cadecf1c73410646d33b629c21551b957dc1891227f5aa5c1d20e5b77b1e6ce0", func := "damask/damaskkeep.SkyCovers", spec := "skyCovers", unfollowed := true, recurses := true, apart := false }
def SkyCoversSaid : Prop := skyCoversRow.holds Try.pinned (OpenSpec.ofChange skyCoversSpec)

/-- ITS FALSE NEIGHBOUR: 'it returns false'. Refute it at one input. -/
def skyCoversWrong : ChangeSpec := { name := "skyCovers", fn := fun _ => fun
  | [d] => { results := [.lit (.bool false)], args := [d] }
  | _ => none }
def SkyCoversWrongFalsely : Prop := skyCoversRow.holds Try.pinned (OpenSpec.ofChange skyCoversWrong)

/-- 'damaskkeep.SkyMirsky': WHATEVER THE INPUT: true; the input reads as it did. -/
def skyMirskySpec : ChangeSpec := { name := "skyMirsky", fn := fun _ => fun
  | [d1, d2] => { results := [.lit (.bool true)], args := [d1, d2] }
  | _ => none }
def skyMirskyRow : OpenClaim := { program := "ytpkclmfadlkbeaa", sum := "cadecf1c73410646d33b629c21551b957dc1891227f5aa5c1d20e5b77b1e6ce0", func := "damask/damaskkeep.SkyMirsky", spec := "skyMirsky", unfollowed := true, recurses := true, apart := false }
def SkyMirskySaid : Prop := skyMirskyRow.holds Try.pinned (OpenSpec.ofChange skyMirskySpec)

/-- ITS FALSE NEIGHBOUR: 'it returns false'. Refute it at one input. -/
def skyMirskyWrong : ChangeSpec := { name := "skyMirsky", fn := fun _ => fun
  | [d1, d2] => { results := [.lit (.bool false)], args := [d1, d2] }
  | _ => none }
def SkyMirskyWrongFalsely : Prop := skyMirskyRow.holds Try.pinned (OpenSpec.ofChange skyMirskyWrong)

/-- 'damaskkeep.SkyUnder': WHATEVER THE INPUT: true; the input reads as it did. -/
def skyUnderSpec : ChangeSpec := { name := "skyUnder", fn := fun _ => fun
  | [d1, d2, d3] => { results := [.lit (.bool true)], args := [d1, d2, d3] }
  | _ => none }
def skyUnderRow : OpenClaim := { program := "ytpkclmfadlkbeaa", sum := "cadecf1c73410646d33b629c21551b957dc1891227f5aa5c1d20e5b77b1e6ce0", func := "damask/damaskkeep.SkyUnder", spec := "skyUnder", unfollowed := true, recurses := true, apart := false }
def SkyUnderSaid : Prop := skyUnderRow.holds Try.pinned (OpenSpec.ofChange skyUnderSpec)

/-- ITS FALSE NEIGHBOUR: 'it returns false'. Refute it at one input. -/
def skyUnderWrong : ChangeSpec := { name := "skyUnder", fn := fun _ => fun
  | [d1, d2, d3] => { results := [.lit (.bool false)], args := [d1, d2, d3] }
  | _ => none }
def SkyUnderWrongFalsely : Prop := skyUnderRow.holds Try.pinned (OpenSpec.ofChange skyUnderWrong)

/-- 'damasktop.TopSwaps': WHATEVER THE INPUT: true; the input reads as it did. -/
def topSwapsSpec : ChangeSpec := { name := "topSwaps", fn := fun _ => fun
  | [d1, d2] => { results := [.lit (.bool true)], args := [d1, d2] }
  | _ => none }
def topSwapsRow : OpenClaim := { program := "ytpkclmfadlkbeaa", sum := "cadecf1c73410646d33b629c21551b957dc1891227f5aa5c1d20e5b77b1e6ce0", func := "damask/damasktop.TopSwaps", spec := "topSwaps", unfollowed := true, recurses := true, apart := false }
def TopSwapsSaid : Prop := topSwapsRow.holds Try.pinned (OpenSpec.ofChange topSwapsSpec)

/-- ITS FALSE NEIGHBOUR: 'it returns false'. Refute it at one input. -/
def topSwapsWrong : ChangeSpec := { name := "topSwaps", fn := fun _ => fun
  | [d1, d2] => { results := [.lit (.bool false)], args := [d1, d2] }
  | _ => none }
def TopSwapsWrongFalsely : Prop := topSwapsRow.holds Try.pinned (OpenSpec.ofChange topSwapsWrong)

/- THE SECOND FORM. 'bulk': how many values and letters a reading holds, each counted each time it is reached (what is shared counts as often as it is met; a slice's spare places count too). A statement '..UptoSaid' is the law's where the arguments, and the package variables that the reading takes, are together of bulk at most 1048576: NARROWER than '..Said'. Prove '..Said' where nothing that the law and all that it calls make is longer than what came in: it says more and counts as full. Else prove '..UptoSaid'. A law counts once. -/
mutual
def uptoBulk {H : Type} : DataW H → Nat
  | .lit (.string bytes) => bytes.length + 1
  | .lit _ => 1
  | .nil => 1
  | .ptr d => uptoBulk d + 1
  | .slice elems spare => uptoBulkAll elems + uptoBulkAll spare + 1
  | .agg parts => uptoBulkAll parts + 1
  | .iface _ d => uptoBulk d + 1
  | .map entries => uptoBulkEntries entries + 1
  | .held _ => 1
def uptoBulkAll {H : Type} : List (DataW H) → Nat
  | [] => 0
  | d :: r => uptoBulk d + uptoBulkAll r
def uptoBulkEntries {H : Type} : List (Lit × DataW H) → Nat
  | [] => 0
  | x :: r => uptoBulkEntry x + uptoBulkEntries r
def uptoBulkEntry {H : Type} : Lit × DataW H → Nat
  | (.string bytes, d) => bytes.length + uptoBulk d + 1
  | (_, d) => uptoBulk d + 1
 end
def uptoSmall : (H : Type) → List (DataW H) → Bool := fun _ ds => decide (uptoBulkAll ds ≤ 1048576)
def OpenSpec.upto (s : _root_.Go.ChangeSpec) : _root_.Go.OpenSpec := { _root_.Go.OpenSpec.ofChange s with cond := some uptoSmall }

/-- 'damasklaw.SkyUnders', WHERE WHAT IT READS IS OF BULK AT MOST 1048576: true; the input reads as it did. -/
def skyUndersUptoRow : OpenClaim := { program := "ytpkclmfadlkbeaa", sum := "cadecf1c73410646d33b629c21551b957dc1891227f5aa5c1d20e5b77b1e6ce0", func := "damask/damasklaw.SkyUnders", spec := "skyUnders", unfollowed := true, recurses := true, apart := false, narrowed := true }
def SkyUndersUptoSaid : Prop := skyUndersUptoRow.holds Try.pinned (OpenSpec.upto skyUndersSpec)

/-- 'damaskkeep.SkyCovers', WHERE WHAT IT READS IS OF BULK AT MOST 1048576: true; the input reads as it did. -/
def skyCoversUptoRow : OpenClaim := { program := "ytpkclmfadlkbeaa", sum := "cadecf1c73410646d33b629c21551b957dc1891227f5aa5c1d20e5b77b1e6ce0", func := "damask/damaskkeep.SkyCovers", spec := "skyCovers", unfollowed := true, recurses := true, apart := false, narrowed := true }
def SkyCoversUptoSaid : Prop := skyCoversUptoRow.holds Try.pinned (OpenSpec.upto skyCoversSpec)

/-- 'damaskkeep.SkyMirsky', WHERE WHAT IT READS IS OF BULK AT MOST 1048576: true; the input reads as it did. -/
def skyMirskyUptoRow : OpenClaim := { program := "ytpkclmfadlkbeaa", sum := "cadecf1c73410646d33b629c21551b957dc1891227f5aa5c1d20e5b77b1e6ce0", func := "damask/damaskkeep.SkyMirsky", spec := "skyMirsky", unfollowed := true, recurses := true, apart := false, narrowed := true }
def SkyMirskyUptoSaid : Prop := skyMirskyUptoRow.holds Try.pinned (OpenSpec.upto skyMirskySpec)

/-- 'damaskkeep.SkyUnder', WHERE WHAT IT READS IS OF BULK AT MOST 1048576: true; the input reads as it did. -/
def skyUnderUptoRow : OpenClaim := { program := "ytpkclmfadlkbeaa", sum := "cadecf1c73410646d33b629c21551b957dc1891227f5aa5c1d20e5b77b1e6ce0", func := "damask/damaskkeep.SkyUnder", spec := "skyUnder", unfollowed := true, recurses := true, apart := false, narrowed := true }
def SkyUnderUptoSaid : Prop := skyUnderUptoRow.holds Try.pinned (OpenSpec.upto skyUnderSpec)

/-- 'damasktop.TopSwaps', WHERE WHAT IT READS IS OF BULK AT MOST 1048576: true; the input reads as it did. -/
def topSwapsUptoRow : OpenClaim := { program := "ytpkclmfadlkbeaa", sum := "cadecf1c73410646d33b629c21551b957dc1891227f5aa5c1d20e5b77b1e6ce0", func := "damask/damasktop.TopSwaps", spec := "topSwaps", unfollowed := true, recurses := true, apart := false, narrowed := true }
def TopSwapsUptoSaid : Prop := topSwapsUptoRow.holds Try.pinned (OpenSpec.upto topSwapsSpec)

end Rows
end Go.Proofs.Ytpkclmfadlkbeaa
