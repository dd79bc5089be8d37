/-
  No cell of these rows narrows 'for every input' (looked for: loops, veiled, ifaces, maps, wideKeys, modest, calm, conditions, laid).
  DERIVED. THE GIVEN ROWS OF THIS SEAT. 7 by the template 'for every input the law returns true; each argument reads behind the call as it read before'; 0 by the template 'total and deterministic' (their statements: YtegcpfopdaoebaaTotals.lean).
  GIVEN WITH THE SEED: the statements are not yours to turn. If you find one false, say at which input.
  Laid BY PROGRAM, IN A SANDBOX (cutbox-rows.mjs): the forced cells as the released guide's own fill.sh prints them over the translation 690b5f80ffc4df5c… (all of the seat's roots in one cut). By AI agents, Wed Nov 11 2026. No macro, syntax, notation, axiom, sorry.
-/
import Derived.Test.YtegcpfopdaoebaaChecked
import GoSem.Claim
import GoSem.ClaimJoined
import GoSem.ClaimMapViews
import Derived.JoinedTies
import Derived.KernelRfl
namespace Go.Proofs.Ytegcpfopdaoebaa
/- THE CELL 'sum', in the pinned program and in every row, IS THE sha256 OF THE DUMP (.gsa) THAT YtegcpfopdaoebaaProg.lean LOADS. Nothing in Lean hashes anything: it is a label: what it is worth is what the hold of that sum in a sandbox is worth. -/
noncomputable def Try.pinned : Pinned := { name := "ytegcpfopdaoebaa", sum := "690b5f80ffc4df5cfbc7768a0630e22d5d64493ea119886d459e4951515acd33", checked := Try.checked }
namespace Rows
def none {H : Type} : Left H := { results := [], args := [] }

/-- 'damasklaw.FenMakes': WHATEVER THE INPUT: true; the input reads as it did. -/
def fenMakesSpec : ChangeSpec := { name := "fenMakes", fn := fun _ => fun
  | [d] => { results := [.lit (.bool true)], args := [d] }
  | _ => none }
def fenMakesRow : OpenClaim := { program := "ytegcpfopdaoebaa", sum := "690b5f80ffc4df5cfbc7768a0630e22d5d64493ea119886d459e4951515acd33", func := "damask/damasklaw.FenMakes", spec := "fenMakes", unfollowed := true, recurses := true, apart := false }
def FenMakesSaid : Prop := fenMakesRow.holds Try.pinned (OpenSpec.ofChange fenMakesSpec)

/-- ITS FALSE NEIGHBOUR: 'it returns false'. Refute it at one input. -/
def fenMakesWrong : ChangeSpec := { name := "fenMakes", fn := fun _ => fun
  | [d] => { results := [.lit (.bool false)], args := [d] }
  | _ => none }
def FenMakesWrongFalsely : Prop := fenMakesRow.holds Try.pinned (OpenSpec.ofChange fenMakesWrong)

/-- 'damasklaw.FenAdds': WHATEVER THE INPUT: true; the input reads as it did. -/
def fenAddsSpec : ChangeSpec := { name := "fenAdds", fn := fun _ => fun
  | [d1, d2, d3] => { results := [.lit (.bool true)], args := [d1, d2, d3] }
  | _ => none }
def fenAddsRow : OpenClaim := { program := "ytegcpfopdaoebaa", sum := "690b5f80ffc4df5cfbc7768a0630e22d5d64493ea119886d459e4951515acd33", func := "damask/damasklaw.FenAdds", spec := "fenAdds", unfollowed := true, recurses := true, apart := false }
def FenAddsSaid : Prop := fenAddsRow.holds Try.pinned (OpenSpec.ofChange fenAddsSpec)

/-- ITS FALSE NEIGHBOUR: 'it returns false'. Refute it at one input. -/
def fenAddsWrong : ChangeSpec := { name := "fenAdds", fn := fun _ => fun
  | [d1, d2, d3] => { results := [.lit (.bool false)], args := [d1, d2, d3] }
  | _ => none }
def FenAddsWrongFalsely : Prop := fenAddsRow.holds Try.pinned (OpenSpec.ofChange fenAddsWrong)

/-- 'damasklaw.FenSums': WHATEVER THE INPUT: true; the input reads as it did. -/
def fenSumsSpec : ChangeSpec := { name := "fenSums", fn := fun _ => fun
  | [d1, d2] => { results := [.lit (.bool true)], args := [d1, d2] }
  | _ => none }
def fenSumsRow : OpenClaim := { program := "ytegcpfopdaoebaa", sum := "690b5f80ffc4df5cfbc7768a0630e22d5d64493ea119886d459e4951515acd33", func := "damask/damasklaw.FenSums", spec := "fenSums", unfollowed := true, recurses := true, apart := false }
def FenSumsSaid : Prop := fenSumsRow.holds Try.pinned (OpenSpec.ofChange fenSumsSpec)

/-- ITS FALSE NEIGHBOUR: 'it returns false'. Refute it at one input. -/
def fenSumsWrong : ChangeSpec := { name := "fenSums", fn := fun _ => fun
  | [d1, d2] => { results := [.lit (.bool false)], args := [d1, d2] }
  | _ => none }
def FenSumsWrongFalsely : Prop := fenSumsRow.holds Try.pinned (OpenSpec.ofChange fenSumsWrong)

/-- 'damasklaw.FenFinds': WHATEVER THE INPUT: true; the input reads as it did. -/
def fenFindsSpec : ChangeSpec := { name := "fenFinds", fn := fun _ => fun
  | [d1, d2] => { results := [.lit (.bool true)], args := [d1, d2] }
  | _ => none }
def fenFindsRow : OpenClaim := { program := "ytegcpfopdaoebaa", sum := "690b5f80ffc4df5cfbc7768a0630e22d5d64493ea119886d459e4951515acd33", func := "damask/damasklaw.FenFinds", spec := "fenFinds", unfollowed := true, recurses := true, apart := false }
def FenFindsSaid : Prop := fenFindsRow.holds Try.pinned (OpenSpec.ofChange fenFindsSpec)

/-- ITS FALSE NEIGHBOUR: 'it returns false'. Refute it at one input. -/
def fenFindsWrong : ChangeSpec := { name := "fenFinds", fn := fun _ => fun
  | [d1, d2] => { results := [.lit (.bool false)], args := [d1, d2] }
  | _ => none }
def FenFindsWrongFalsely : Prop := fenFindsRow.holds Try.pinned (OpenSpec.ofChange fenFindsWrong)

/-- 'damaskkeep.FenTrue': WHATEVER THE INPUT: true; the input reads as it did. -/
def fenTrueSpec : ChangeSpec := { name := "fenTrue", fn := fun _ => fun
  | [d1, d2, d3] => { results := [.lit (.bool true)], args := [d1, d2, d3] }
  | _ => none }
def fenTrueRow : OpenClaim := { program := "ytegcpfopdaoebaa", sum := "690b5f80ffc4df5cfbc7768a0630e22d5d64493ea119886d459e4951515acd33", func := "damask/damaskkeep.FenTrue", spec := "fenTrue", unfollowed := true, recurses := true, apart := false }
def FenTrueSaid : Prop := fenTrueRow.holds Try.pinned (OpenSpec.ofChange fenTrueSpec)

/-- ITS FALSE NEIGHBOUR: 'it returns false'. Refute it at one input. -/
def fenTrueWrong : ChangeSpec := { name := "fenTrue", fn := fun _ => fun
  | [d1, d2, d3] => { results := [.lit (.bool false)], args := [d1, d2, d3] }
  | _ => none }
def FenTrueWrongFalsely : Prop := fenTrueRow.holds Try.pinned (OpenSpec.ofChange fenTrueWrong)

/-- 'damaskkeep.FenFound': WHATEVER THE INPUT: true; the input reads as it did. -/
def fenFoundSpec : ChangeSpec := { name := "fenFound", fn := fun _ => fun
  | [d1, d2] => { results := [.lit (.bool true)], args := [d1, d2] }
  | _ => none }
def fenFoundRow : OpenClaim := { program := "ytegcpfopdaoebaa", sum := "690b5f80ffc4df5cfbc7768a0630e22d5d64493ea119886d459e4951515acd33", func := "damask/damaskkeep.FenFound", spec := "fenFound", unfollowed := true, recurses := true, apart := false }
def FenFoundSaid : Prop := fenFoundRow.holds Try.pinned (OpenSpec.ofChange fenFoundSpec)

/-- ITS FALSE NEIGHBOUR: 'it returns false'. Refute it at one input. -/
def fenFoundWrong : ChangeSpec := { name := "fenFound", fn := fun _ => fun
  | [d1, d2] => { results := [.lit (.bool false)], args := [d1, d2] }
  | _ => none }
def FenFoundWrongFalsely : Prop := fenFoundRow.holds Try.pinned (OpenSpec.ofChange fenFoundWrong)

/-- 'damaskkeep.FenUndone': WHATEVER THE INPUT: true; the input reads as it did. -/
def fenUndoneSpec : ChangeSpec := { name := "fenUndone", fn := fun _ => fun
  | [d1, d2, d3, d4, d5] => { results := [.lit (.bool true)], args := [d1, d2, d3, d4, d5] }
  | _ => none }
def fenUndoneRow : OpenClaim := { program := "ytegcpfopdaoebaa", sum := "690b5f80ffc4df5cfbc7768a0630e22d5d64493ea119886d459e4951515acd33", func := "damask/damaskkeep.FenUndone", spec := "fenUndone", unfollowed := true, recurses := true, apart := false }
def FenUndoneSaid : Prop := fenUndoneRow.holds Try.pinned (OpenSpec.ofChange fenUndoneSpec)

/-- ITS FALSE NEIGHBOUR: 'it returns false'. Refute it at one input. -/
def fenUndoneWrong : ChangeSpec := { name := "fenUndone", fn := fun _ => fun
  | [d1, d2, d3, d4, d5] => { results := [.lit (.bool false)], args := [d1, d2, d3, d4, d5] }
  | _ => none }
def FenUndoneWrongFalsely : Prop := fenUndoneRow.holds Try.pinned (OpenSpec.ofChange fenUndoneWrong)

/- THE SECOND FORM. 'bulk': how many values and letters a reading holds, each counted each time it is reached (what is shared counts as often as it is met; a slice's spare places count too). A statement '..UptoSaid' is the law's where the arguments, and the package variables that the reading takes, are together of bulk at most 1048576: NARROWER than '..Said'. Prove '..Said' where nothing that the law and all that it calls make is longer than what came in: it says more and counts as full. Else prove '..UptoSaid'. A law counts once. -/
mutual
def uptoBulk {H : Type} : DataW H → Nat
  | .lit (.string bytes) => bytes.length + 1
  | .lit _ => 1
  | .nil => 1
  | .ptr d => uptoBulk d + 1
  | .slice elems spare => uptoBulkAll elems + uptoBulkAll spare + 1
  | .agg parts => uptoBulkAll parts + 1
  | .iface _ d => uptoBulk d + 1
  | .map entries => uptoBulkEntries entries + 1
  | .held _ => 1
def uptoBulkAll {H : Type} : List (DataW H) → Nat
  | [] => 0
  | d :: r => uptoBulk d + uptoBulkAll r
def uptoBulkEntries {H : Type} : List (Lit × DataW H) → Nat
  | [] => 0
  | x :: r => uptoBulkEntry x + uptoBulkEntries r
def uptoBulkEntry {H : Type} : Lit × DataW H → Nat
  | (.string bytes, d) => bytes.length + uptoBulk d + 1
  | (_, d) => uptoBulk d + 1
 end
def uptoSmall : (H : Type) → List (DataW H) → Bool := fun _ ds => decide (uptoBulkAll ds ≤ 1048576)
def OpenSpec.upto (s : _root_.Go.ChangeSpec) : _root_.Go.OpenSpec := { _root_.Go.OpenSpec.ofChange s with cond := some uptoSmall }

/-- 'damasklaw.FenMakes', WHERE WHAT IT READS IS OF BULK AT MOST 1048576: true; the input reads as it did. -/
def fenMakesUptoRow : OpenClaim := { program := "ytegcpfopdaoebaa", sum := "690b5f80ffc4df5cfbc7768a0630e22d5d64493ea119886d459e4951515acd33", func := "damask/damasklaw.FenMakes", spec := "fenMakes", unfollowed := true, recurses := true, apart := false, narrowed := true }
def FenMakesUptoSaid : Prop := fenMakesUptoRow.holds Try.pinned (OpenSpec.upto fenMakesSpec)

/-- 'damasklaw.FenAdds', WHERE WHAT IT READS IS OF BULK AT MOST 1048576: true; the input reads as it did. -/
def fenAddsUptoRow : OpenClaim := { program := "ytegcpfopdaoebaa", sum := "690b5f80ffc4df5cfbc7768a0630e22d5d64493ea119886d459e4951515acd33", func := "damask/damasklaw.FenAdds", spec := "fenAdds", unfollowed := true, recurses := true, apart := false, narrowed := true }
def FenAddsUptoSaid : Prop := fenAddsUptoRow.holds Try.pinned (OpenSpec.upto fenAddsSpec)

/-- 'damasklaw.FenSums', WHERE WHAT IT READS IS OF BULK AT MOST 1048576: true; the input reads as it did. -/
def fenSumsUptoRow : OpenClaim := { program := "ytegcpfopdaoebaa", sum := "690b5f80ffc4df5cfbc7768a0630e22d5d64493ea119886d459e4951515acd33", func := "damask/damasklaw.FenSums", spec := "fenSums", unfollowed := true, recurses := true, apart := false, narrowed := true }
def FenSumsUptoSaid : Prop := fenSumsUptoRow.holds Try.pinned (OpenSpec.upto fenSumsSpec)

/-- 'damasklaw.FenFinds', WHERE WHAT IT READS IS OF BULK AT MOST 1048576: true; the input reads as it did. -/
def fenFindsUptoRow : OpenClaim := { program := "ytegcpfopdaoebaa", sum := "690b5f80ffc4df5cfbc7768a0630e22d5d64493ea119886d459e4951515acd33", func := "damask/damasklaw.FenFinds", spec := "fenFinds", unfollowed := true, recurses := true, apart := false, narrowed := true }
def FenFindsUptoSaid : Prop := fenFindsUptoRow.holds Try.pinned (OpenSpec.upto fenFindsSpec)

/-- 'damaskkeep.FenTrue', WHERE WHAT IT READS IS OF BULK AT MOST 1048576: true; the input reads as it did. -/
def fenTrueUptoRow : OpenClaim := { program := "ytegcpfopdaoebaa", sum := "690b5f80ffc4df5cfbc7768a0630e22d5d64493ea119886d459e4951515acd33", func := "damask/damaskkeep.FenTrue", spec := "fenTrue", unfollowed := true, recurses := true, apart := false, narrowed := true }
def FenTrueUptoSaid : Prop := fenTrueUptoRow.holds Try.pinned (OpenSpec.upto fenTrueSpec)

/-- 'damaskkeep.FenFound', WHERE WHAT IT READS IS OF BULK AT MOST 1048576: true; the input reads as it did. -/
def fenFoundUptoRow : OpenClaim := { program := "ytegcpfopdaoebaa", sum := "690b5f80ffc4df5cfbc7768a0630e22d5d64493ea119886d459e4951515acd33", func := "damask/damaskkeep.FenFound", spec := "fenFound", unfollowed := true, recurses := true, apart := false, narrowed := true }
def FenFoundUptoSaid : Prop := fenFoundUptoRow.holds Try.pinned (OpenSpec.upto fenFoundSpec)

/-- 'damaskkeep.FenUndone', WHERE WHAT IT READS IS OF BULK AT MOST 1048576: true; the input reads as it did. -/
def fenUndoneUptoRow : OpenClaim := { program := "ytegcpfopdaoebaa", sum := "690b5f80ffc4df5cfbc7768a0630e22d5d64493ea119886d459e4951515acd33", func := "damask/damaskkeep.FenUndone", spec := "fenUndone", unfollowed := true, recurses := true, apart := false, narrowed := true }
def FenUndoneUptoSaid : Prop := fenUndoneUptoRow.holds Try.pinned (OpenSpec.upto fenUndoneSpec)

end Rows
end Go.Proofs.Ytegcpfopdaoebaa
