/-
  NARROWER THAN 'FOR EVERY INPUT', by the rows' own cells (each row's printed sentence says how): FanoMays: laid · FanoAts: laid · FanoNexts: laid · FanoBack: laid · FanoFinds: laid.
  DERIVED. THE GIVEN ROWS OF THIS SEAT. 5 by the template 'for every input the law returns true; each argument reads behind the call as it read before'; 0 by the template 'total and deterministic' (their statements: YtmlekhgjnhnjlaaDoorTotals.lean).
  GIVEN WITH THE SEED: the statements are not yours to turn. If you find one false, say at which input.
  Laid BY PROGRAM, IN A SANDBOX (cutbox-rows.mjs): the forced cells as the released guide's own fill.sh prints them over the translation 4163849384af7e87… (all of the seat's roots in one cut). By AI agents, Wed Nov 11 2026. No macro, syntax, notation, axiom, sorry.
-/
import Derived.Test.YtmlekhgjnhnjlaaDoorChecked
import GoSem.Claim
import GoSem.ClaimJoined
import GoSem.ClaimMapViews
import Derived.JoinedTies
import Derived.KernelRfl
namespace Go.Proofs.YtmlekhgjnhnjlaaDoor
/- THE CELL 'sum', in the pinned program and in every row, IS THE sha256 OF THE DUMP (.gsa) THAT YtmlekhgjnhnjlaaDoorProg.lean LOADS. Nothing in Lean hashes anything: it is a label: what it is worth is what the hold of that sum in a sandbox is worth. -/
noncomputable def Tryd.pinned : Pinned := { name := "ytmlekhgjnhnjlaadoor", sum := "4163849384af7e87ebb83720f7ec3770cb671d429b3b6f280e2bb7442a338684", checked := Tryd.checked }
namespace Rows
def none {H : Type} : Left H := { results := [], args := [] }

/- WHAT THE LISTED PACKAGE-LEVEL VARIABLES READ AS WHEN THE CALL BEGINS. Each datum BY PROGRAM (the guide's laid-datum.mjs) off the statement by which the dump's own 'gosem.cut.vars' lays the variable. In a bare row this is a premise. The card (YtmlekhgjnhnjlaaDoorCards.lean) ties it to the program's text. -/
def laid_math_bits_deBruijn64tab {H : Type} : DataW H := .agg [.lit (.int .u8 0), .lit (.int .u8 1), .lit (.int .u8 56), .lit (.int .u8 2), .lit (.int .u8 57), .lit (.int .u8 49), .lit (.int .u8 28), .lit (.int .u8 3), .lit (.int .u8 61), .lit (.int .u8 58), .lit (.int .u8 42), .lit (.int .u8 50), .lit (.int .u8 38), .lit (.int .u8 29), .lit (.int .u8 17), .lit (.int .u8 4), .lit (.int .u8 62), .lit (.int .u8 47), .lit (.int .u8 59), .lit (.int .u8 36), .lit (.int .u8 45), .lit (.int .u8 43), .lit (.int .u8 51), .lit (.int .u8 22), .lit (.int .u8 53), .lit (.int .u8 39), .lit (.int .u8 33), .lit (.int .u8 30), .lit (.int .u8 24), .lit (.int .u8 18), .lit (.int .u8 12), .lit (.int .u8 5), .lit (.int .u8 63), .lit (.int .u8 55), .lit (.int .u8 48), .lit (.int .u8 27), .lit (.int .u8 60), .lit (.int .u8 41), .lit (.int .u8 37), .lit (.int .u8 16), .lit (.int .u8 46), .lit (.int .u8 35), .lit (.int .u8 44), .lit (.int .u8 21), .lit (.int .u8 52), .lit (.int .u8 32), .lit (.int .u8 23), .lit (.int .u8 11), .lit (.int .u8 54), .lit (.int .u8 26), .lit (.int .u8 40), .lit (.int .u8 15), .lit (.int .u8 34), .lit (.int .u8 20), .lit (.int .u8 31), .lit (.int .u8 10), .lit (.int .u8 25), .lit (.int .u8 14), .lit (.int .u8 19), .lit (.int .u8 9), .lit (.int .u8 13), .lit (.int .u8 8), .lit (.int .u8 7), .lit (.int .u8 6)]

/-- 'damasklaw.FanoMays': WHATEVER THE INPUT: true; the input reads as it did. -/
def fanoMaysSpec : ChangeSpec := { name := "fanoMays", fn := fun _ => fun
  | [d] => { results := [.lit (.bool true)], args := [d] }
  | _ => none }
def fanoMaysRow : OpenClaim := { program := "ytmlekhgjnhnjlaadoor", sum := "4163849384af7e87ebb83720f7ec3770cb671d429b3b6f280e2bb7442a338684", func := "damask/damasklaw.FanoMays", spec := "fanoMays", named := ["math/bits.deBruijn64tab"], apart := false, laid := [("math/bits.deBruijn64tab", laid_math_bits_deBruijn64tab)] }
def FanoMaysSaid : Prop := fanoMaysRow.holds Tryd.pinned (OpenSpec.ofChange fanoMaysSpec)

/-- ITS FALSE NEIGHBOUR: 'it returns false'. Refute it at one input. -/
def fanoMaysWrong : ChangeSpec := { name := "fanoMays", fn := fun _ => fun
  | [d] => { results := [.lit (.bool false)], args := [d] }
  | _ => none }
def FanoMaysWrongFalsely : Prop := fanoMaysRow.holds Tryd.pinned (OpenSpec.ofChange fanoMaysWrong)

/-- 'damasklaw.FanoAts': WHATEVER THE INPUT: true; the input reads as it did. -/
def fanoAtsSpec : ChangeSpec := { name := "fanoAts", fn := fun _ => fun
  | [d1, d2] => { results := [.lit (.bool true)], args := [d1, d2] }
  | _ => none }
def fanoAtsRow : OpenClaim := { program := "ytmlekhgjnhnjlaadoor", sum := "4163849384af7e87ebb83720f7ec3770cb671d429b3b6f280e2bb7442a338684", func := "damask/damasklaw.FanoAts", spec := "fanoAts", named := ["math/bits.deBruijn64tab"], apart := false, laid := [("math/bits.deBruijn64tab", laid_math_bits_deBruijn64tab)] }
def FanoAtsSaid : Prop := fanoAtsRow.holds Tryd.pinned (OpenSpec.ofChange fanoAtsSpec)

/-- ITS FALSE NEIGHBOUR: 'it returns false'. Refute it at one input. -/
def fanoAtsWrong : ChangeSpec := { name := "fanoAts", fn := fun _ => fun
  | [d1, d2] => { results := [.lit (.bool false)], args := [d1, d2] }
  | _ => none }
def FanoAtsWrongFalsely : Prop := fanoAtsRow.holds Tryd.pinned (OpenSpec.ofChange fanoAtsWrong)

/-- 'damasklaw.FanoNexts': WHATEVER THE INPUT: true; the input reads as it did. -/
def fanoNextsSpec : ChangeSpec := { name := "fanoNexts", fn := fun _ => fun
  | [d1, d2] => { results := [.lit (.bool true)], args := [d1, d2] }
  | _ => none }
def fanoNextsRow : OpenClaim := { program := "ytmlekhgjnhnjlaadoor", sum := "4163849384af7e87ebb83720f7ec3770cb671d429b3b6f280e2bb7442a338684", func := "damask/damasklaw.FanoNexts", spec := "fanoNexts", named := ["math/bits.deBruijn64tab"], apart := false, laid := [("math/bits.deBruijn64tab", laid_math_bits_deBruijn64tab)] }
def FanoNextsSaid : Prop := fanoNextsRow.holds Tryd.pinned (OpenSpec.ofChange fanoNextsSpec)

/-- ITS FALSE NEIGHBOUR: 'it returns false'. Refute it at one input. -/
def fanoNextsWrong : ChangeSpec := { name := "fanoNexts", fn := fun _ => fun
  | [d1, d2] => { results := [.lit (.bool false)], args := [d1, d2] }
  | _ => none }
def FanoNextsWrongFalsely : Prop := fanoNextsRow.holds Tryd.pinned (OpenSpec.ofChange fanoNextsWrong)

/-- 'damaskkeep.FanoBack': WHATEVER THE INPUT: true; the input reads as it did. -/
def fanoBackSpec : ChangeSpec := { name := "fanoBack", fn := fun _ => fun
  | [d1, d2, d3] => { results := [.lit (.bool true)], args := [d1, d2, d3] }
  | _ => none }
def fanoBackRow : OpenClaim := { program := "ytmlekhgjnhnjlaadoor", sum := "4163849384af7e87ebb83720f7ec3770cb671d429b3b6f280e2bb7442a338684", func := "damask/damaskkeep.FanoBack", spec := "fanoBack", named := ["math/bits.deBruijn64tab"], apart := false, laid := [("math/bits.deBruijn64tab", laid_math_bits_deBruijn64tab)] }
def FanoBackSaid : Prop := fanoBackRow.holds Tryd.pinned (OpenSpec.ofChange fanoBackSpec)

/-- ITS FALSE NEIGHBOUR: 'it returns false'. Refute it at one input. -/
def fanoBackWrong : ChangeSpec := { name := "fanoBack", fn := fun _ => fun
  | [d1, d2, d3] => { results := [.lit (.bool false)], args := [d1, d2, d3] }
  | _ => none }
def FanoBackWrongFalsely : Prop := fanoBackRow.holds Tryd.pinned (OpenSpec.ofChange fanoBackWrong)

/-- 'damaskkeep.FanoFinds': WHATEVER THE INPUT: true; the input reads as it did. -/
def fanoFindsSpec : ChangeSpec := { name := "fanoFinds", fn := fun _ => fun
  | [d1, d2, d3] => { results := [.lit (.bool true)], args := [d1, d2, d3] }
  | _ => none }
def fanoFindsRow : OpenClaim := { program := "ytmlekhgjnhnjlaadoor", sum := "4163849384af7e87ebb83720f7ec3770cb671d429b3b6f280e2bb7442a338684", func := "damask/damaskkeep.FanoFinds", spec := "fanoFinds", named := ["math/bits.deBruijn64tab"], apart := false, laid := [("math/bits.deBruijn64tab", laid_math_bits_deBruijn64tab)] }
def FanoFindsSaid : Prop := fanoFindsRow.holds Tryd.pinned (OpenSpec.ofChange fanoFindsSpec)

/-- ITS FALSE NEIGHBOUR: 'it returns false'. Refute it at one input. -/
def fanoFindsWrong : ChangeSpec := { name := "fanoFinds", fn := fun _ => fun
  | [d1, d2, d3] => { results := [.lit (.bool false)], args := [d1, d2, d3] }
  | _ => none }
def FanoFindsWrongFalsely : Prop := fanoFindsRow.holds Tryd.pinned (OpenSpec.ofChange fanoFindsWrong)

/- THE SECOND FORM. 'bulk': how many values and letters a reading holds, each counted each time it is reached (what is shared counts as often as it is met; a slice's spare places count too). A statement '..UptoSaid' is the law's where the arguments, and the package variables that the reading takes, are together of bulk at most 1048576: NARROWER than '..Said'. Prove '..Said' where nothing that the law and all that it calls make is longer than what came in: it says more and counts as full. Else prove '..UptoSaid'. A law counts once. -/
mutual
def uptoBulk {H : Type} : DataW H → Nat
  | .lit (.string bytes) => bytes.length + 1
  | .lit _ => 1
  | .nil => 1
  | .ptr d => uptoBulk d + 1
  | .slice elems spare => uptoBulkAll elems + uptoBulkAll spare + 1
  | .agg parts => uptoBulkAll parts + 1
  | .iface _ d => uptoBulk d + 1
  | .map entries => uptoBulkEntries entries + 1
  | .held _ => 1
def uptoBulkAll {H : Type} : List (DataW H) → Nat
  | [] => 0
  | d :: r => uptoBulk d + uptoBulkAll r
def uptoBulkEntries {H : Type} : List (Lit × DataW H) → Nat
  | [] => 0
  | x :: r => uptoBulkEntry x + uptoBulkEntries r
def uptoBulkEntry {H : Type} : Lit × DataW H → Nat
  | (.string bytes, d) => bytes.length + uptoBulk d + 1
  | (_, d) => uptoBulk d + 1
 end
def uptoSmall : (H : Type) → List (DataW H) → Bool := fun _ ds => decide (uptoBulkAll ds ≤ 1048576)
def OpenSpec.upto (s : _root_.Go.ChangeSpec) : _root_.Go.OpenSpec := { _root_.Go.OpenSpec.ofChange s with cond := some uptoSmall }

/-- 'damasklaw.FanoMays', WHERE WHAT IT READS IS OF BULK AT MOST 1048576: true; the input reads as it did. -/
def fanoMaysUptoRow : OpenClaim := { program := "ytmlekhgjnhnjlaadoor", sum := "4163849384af7e87ebb83720f7ec3770cb671d429b3b6f280e2bb7442a338684", func := "damask/damasklaw.FanoMays", spec := "fanoMays", named := ["math/bits.deBruijn64tab"], apart := false, laid := [("math/bits.deBruijn64tab", laid_math_bits_deBruijn64tab)], narrowed := true }
def FanoMaysUptoSaid : Prop := fanoMaysUptoRow.holds Tryd.pinned (OpenSpec.upto fanoMaysSpec)

/-- 'damasklaw.FanoAts', WHERE WHAT IT READS IS OF BULK AT MOST 1048576: true; the input reads as it did. -/
def fanoAtsUptoRow : OpenClaim := { program := "ytmlekhgjnhnjlaadoor", sum := "4163849384af7e87ebb83720f7ec3770cb671d429b3b6f280e2bb7442a338684", func := "damask/damasklaw.FanoAts", spec := "fanoAts", named := ["math/bits.deBruijn64tab"], apart := false, laid := [("math/bits.deBruijn64tab", laid_math_bits_deBruijn64tab)], narrowed := true }
def FanoAtsUptoSaid : Prop := fanoAtsUptoRow.holds Tryd.pinned (OpenSpec.upto fanoAtsSpec)

/-- 'damasklaw.FanoNexts', WHERE WHAT IT READS IS OF BULK AT MOST 1048576: true; the input reads as it did. -/
def fanoNextsUptoRow : OpenClaim := { program := "ytmlekhgjnhnjlaadoor", sum := "4163849384af7e87ebb83720f7ec3770cb671d429b3b6f280e2bb7442a338684", func := "damask/damasklaw.FanoNexts", spec := "fanoNexts", named := ["math/bits.deBruijn64tab"], apart := false, laid := [("math/bits.deBruijn64tab", laid_math_bits_deBruijn64tab)], narrowed := true }
def FanoNextsUptoSaid : Prop := fanoNextsUptoRow.holds Tryd.pinned (OpenSpec.upto fanoNextsSpec)

/-- 'damaskkeep.FanoBack', WHERE WHAT IT READS IS OF BULK AT MOST 1048576: true; the input reads as it did. -/
def fanoBackUptoRow : OpenClaim := { program := "ytmlekhgjnhnjlaadoor", sum := "4163849384af7e87ebb83720f7ec3770cb671d429b3b6f280e2bb7442a338684", func := "damask/damaskkeep.FanoBack", spec := "fanoBack", named := ["math/bits.deBruijn64tab"], apart := false, laid := [("math/bits.deBruijn64tab", laid_math_bits_deBruijn64tab)], narrowed := true }
def FanoBackUptoSaid : Prop := fanoBackUptoRow.holds Tryd.pinned (OpenSpec.upto fanoBackSpec)

/-- 'damaskkeep.FanoFinds', WHERE WHAT IT READS IS OF BULK AT MOST 1048576: true; the input reads as it did. -/
def fanoFindsUptoRow : OpenClaim := { program := "ytmlekhgjnhnjlaadoor", sum := "4163849384af7e87ebb83720f7ec3770cb671d429b3b6f280e2bb7442a338684", func := "damask/damaskkeep.FanoFinds", spec := "fanoFinds", named := ["math/bits.deBruijn64tab"], apart := false, laid := [("math/bits.deBruijn64tab", laid_math_bits_deBruijn64tab)], narrowed := true }
def FanoFindsUptoSaid : Prop := fanoFindsUptoRow.holds Tryd.pinned (OpenSpec.upto fanoFindsSpec)

end Rows
end Go.Proofs.YtmlekhgjnhnjlaaDoor
