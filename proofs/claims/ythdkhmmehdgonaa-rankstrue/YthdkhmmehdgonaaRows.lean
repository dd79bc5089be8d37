/-
  No cell of these rows narrows 'for every input' (looked for: loops, veiled, ifaces, maps, wideKeys, modest, calm, conditions, laid).
  DERIVED. THE GIVEN ROWS OF THIS SEAT. 3 by the template 'for every input the law returns true; each argument reads behind the call as it read before'; 0 by the template 'total and deterministic' (their statements: YthdkhmmehdgonaaTotals.lean).
  GIVEN WITH THE SEED: the statements are not yours to turn. If you find one false, say at which input.
  Laid BY PROGRAM, IN A SANDBOX (cutbox-rows.mjs): the forced cells as the released guide's own fill.sh prints them over the translation fbb116626de2ee5e… (all of the seat's roots in one cut). By AI agents, Wed Nov 11 2026. No macro, syntax, notation, axiom, sorry.
-/
import Derived.Test.YthdkhmmehdgonaaChecked
import GoSem.Claim
import GoSem.ClaimJoined
import GoSem.ClaimMapViews
import Derived.JoinedTies
import Derived.KernelRfl
namespace Go.Proofs.Ythdkhmmehdgonaa
/- THE CELL 'sum', in the pinned program and in every row, IS THE sha256 OF THE DUMP (.gsa) THAT YthdkhmmehdgonaaProg.lean LOADS. Nothing in Lean hashes anything: it is a label: what it is worth is what the hold of that sum in a sandbox is worth. -/
noncomputable def Try.pinned : Pinned := { name := "ythdkhmmehdgonaa", sum := "fbb116626de2ee5e1675e8ef7292e88f6d537858c146f89ad8973223c3f013b8", checked := Try.checked }
namespace Rows
def none {H : Type} : Left H := { results := [], args := [] }

/-- 'damasklaw.RanksMakes': WHATEVER THE INPUT: true; the input reads as it did. -/
def ranksMakesSpec : ChangeSpec := { name := "ranksMakes", fn := fun _ => fun
  | [d] => { results := [.lit (.bool true)], args := [d] }
  | _ => none }
def ranksMakesRow : OpenClaim := { program := "ythdkhmmehdgonaa", sum := "fbb116626de2ee5e1675e8ef7292e88f6d537858c146f89ad8973223c3f013b8", func := "damask/damasklaw.RanksMakes", spec := "ranksMakes", unfollowed := true, recurses := true, apart := false }
def RanksMakesSaid : Prop := ranksMakesRow.holds Try.pinned (OpenSpec.ofChange ranksMakesSpec)

/-- ITS FALSE NEIGHBOUR: 'it returns false'. Refute it at one input. -/
def ranksMakesWrong : ChangeSpec := { name := "ranksMakes", fn := fun _ => fun
  | [d] => { results := [.lit (.bool false)], args := [d] }
  | _ => none }
def RanksMakesWrongFalsely : Prop := ranksMakesRow.holds Try.pinned (OpenSpec.ofChange ranksMakesWrong)

/-- 'damasklaw.RanksFinds': WHATEVER THE INPUT: true; the input reads as it did. -/
def ranksFindsSpec : ChangeSpec := { name := "ranksFinds", fn := fun _ => fun
  | [d1, d2] => { results := [.lit (.bool true)], args := [d1, d2] }
  | _ => none }
def ranksFindsRow : OpenClaim := { program := "ythdkhmmehdgonaa", sum := "fbb116626de2ee5e1675e8ef7292e88f6d537858c146f89ad8973223c3f013b8", func := "damask/damasklaw.RanksFinds", spec := "ranksFinds", apart := false }
def RanksFindsSaid : Prop := ranksFindsRow.holds Try.pinned (OpenSpec.ofChange ranksFindsSpec)

/-- ITS FALSE NEIGHBOUR: 'it returns false'. Refute it at one input. -/
def ranksFindsWrong : ChangeSpec := { name := "ranksFinds", fn := fun _ => fun
  | [d1, d2] => { results := [.lit (.bool false)], args := [d1, d2] }
  | _ => none }
def RanksFindsWrongFalsely : Prop := ranksFindsRow.holds Try.pinned (OpenSpec.ofChange ranksFindsWrong)

/-- 'damaskkeep.RanksTrue': WHATEVER THE INPUT: true; the input reads as it did. -/
def ranksTrueSpec : ChangeSpec := { name := "ranksTrue", fn := fun _ => fun
  | [d1, d2] => { results := [.lit (.bool true)], args := [d1, d2] }
  | _ => none }
def ranksTrueRow : OpenClaim := { program := "ythdkhmmehdgonaa", sum := "fbb116626de2ee5e1675e8ef7292e88f6d537858c146f89ad8973223c3f013b8", func := "damask/damaskkeep.RanksTrue", spec := "ranksTrue", recurses := true, apart := false }
def RanksTrueSaid : Prop := ranksTrueRow.holds Try.pinned (OpenSpec.ofChange ranksTrueSpec)

/-- ITS FALSE NEIGHBOUR: 'it returns false'. Refute it at one input. -/
def ranksTrueWrong : ChangeSpec := { name := "ranksTrue", fn := fun _ => fun
  | [d1, d2] => { results := [.lit (.bool false)], args := [d1, d2] }
  | _ => none }
def RanksTrueWrongFalsely : Prop := ranksTrueRow.holds Try.pinned (OpenSpec.ofChange ranksTrueWrong)

/- THE SECOND FORM. 'bulk': how many values and letters a reading holds, each counted each time it is reached (what is shared counts as often as it is met; a slice's spare places count too). A statement '..UptoSaid' is the law's where the arguments, and the package variables that the reading takes, are together of bulk at most 1048576: NARROWER than '..Said'. Prove '..Said' where nothing that the law and all that it calls make is longer than what came in: it says more and counts as full. Else prove '..UptoSaid'. A law counts once. -/
mutual
def uptoBulk {H : Type} : DataW H → Nat
  | .lit (.string bytes) => bytes.length + 1
  | .lit _ => 1
  | .nil => 1
  | .ptr d => uptoBulk d + 1
  | .slice elems spare => uptoBulkAll elems + uptoBulkAll spare + 1
  | .agg parts => uptoBulkAll parts + 1
  | .iface _ d => uptoBulk d + 1
  | .map entries => uptoBulkEntries entries + 1
  | .held _ => 1
def uptoBulkAll {H : Type} : List (DataW H) → Nat
  | [] => 0
  | d :: r => uptoBulk d + uptoBulkAll r
def uptoBulkEntries {H : Type} : List (Lit × DataW H) → Nat
  | [] => 0
  | x :: r => uptoBulkEntry x + uptoBulkEntries r
def uptoBulkEntry {H : Type} : Lit × DataW H → Nat
  | (.string bytes, d) => bytes.length + uptoBulk d + 1
  | (_, d) => uptoBulk d + 1
 end
def uptoSmall : (H : Type) → List (DataW H) → Bool := fun _ ds => decide (uptoBulkAll ds ≤ 1048576)
def OpenSpec.upto (s : _root_.Go.ChangeSpec) : _root_.Go.OpenSpec := { _root_.Go.OpenSpec.ofChange s with cond := some uptoSmall }

/-- 'damasklaw.RanksMakes', WHERE WHAT IT READS IS OF BULK AT MOST 1048576: true; the input reads as it did. -/
def ranksMakesUptoRow : OpenClaim := { program := "ythdkhmmehdgonaa", sum := "fbb116626de2ee5e1675e8ef7292e88f6d537858c146f89ad8973223c3f013b8", func := "damask/damasklaw.RanksMakes", spec := "ranksMakes", unfollowed := true, recurses := true, apart := false, narrowed := true }
def RanksMakesUptoSaid : Prop := ranksMakesUptoRow.holds Try.pinned (OpenSpec.upto ranksMakesSpec)

/-- 'damasklaw.RanksFinds', WHERE WHAT IT READS IS OF BULK AT MOST 1048576: true; the input reads as it did. -/
def ranksFindsUptoRow : OpenClaim := { program := "ythdkhmmehdgonaa", sum := "fbb116626de2ee5e1675e8ef7292e88f6d537858c146f89ad8973223c3f013b8", func := "damask/damasklaw.RanksFinds", spec := "ranksFinds", apart := false, narrowed := true }
def RanksFindsUptoSaid : Prop := ranksFindsUptoRow.holds Try.pinned (OpenSpec.upto ranksFindsSpec)

/-- 'damaskkeep.RanksTrue', WHERE WHAT IT READS IS OF BULK AT MOST 1048576: true; the input reads as it did. -/
def ranksTrueUptoRow : OpenClaim := { program := "ythdkhmmehdgonaa", sum := "fbb116626de2ee5e1675e8ef7292e88f6d537858c146f89ad8973223c3f013b8", func := "damask/damaskkeep.RanksTrue", spec := "ranksTrue", recurses := true, apart := false, narrowed := true }
def RanksTrueUptoSaid : Prop := ranksTrueUptoRow.holds Try.pinned (OpenSpec.upto ranksTrueSpec)

end Rows
end Go.Proofs.Ythdkhmmehdgonaa
