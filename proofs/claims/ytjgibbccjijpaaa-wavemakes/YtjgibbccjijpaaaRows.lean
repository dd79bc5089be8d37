/-
  No cell of these rows narrows 'for every input' (looked for: loops, veiled, ifaces, maps, wideKeys, modest, calm, conditions, laid).
  DERIVED. THE GIVEN ROWS OF THIS SEAT. 11 by the template 'for every input the law returns true; each argument reads behind the call as it read before'; 0 by the template 'total and deterministic' (their statements: YtjgibbccjijpaaaTotals.lean).
  GIVEN WITH THE SEED: the statements are not yours to turn. If you find one false, say at which input.
  Laid BY PROGRAM, IN A SANDBOX (cutbox-rows.mjs): the forced cells as the released guide's own fill.sh prints them over the translation 679a951c9634699f… (all of the seat's roots in one cut). By AI agents, Wed Nov 11 2026. No macro, syntax, notation, axiom, sorry.
-/
import Derived.Test.YtjgibbccjijpaaaChecked
import GoSem.Claim
import GoSem.ClaimJoined
import GoSem.ClaimMapViews
import Derived.JoinedTies
import Derived.KernelRfl
namespace Go.Proofs.Ytjgibbccjijpaaa
/- THE CELL 'sum', in the pinned program and in every row, IS THE sha256 OF THE DUMP (.gsa) THAT YtjgibbccjijpaaaProg.lean LOADS. Nothing in Lean hashes anything: it is a label: what it is worth is what the hold of that sum in a sandbox is worth. -/
noncomputable def Try.pinned : Pinned := { name := "ytjgibbccjijpaaa", sum := "679a951c9634699fb4666ce2bd6dc3ccff52fc5a7ae81dcb4a5e34eb3baf044b", checked := Try.checked }
namespace Rows
def none {H : Type} : Left H := { results := [], args := [] }

/-- 'damasklaw.WaveMakes': WHATEVER THE INPUT: true; the input reads as it did. -/
def waveMakesSpec : ChangeSpec := { name := "waveMakes", fn := fun _ => fun
  | [d1, d2] => { results := [.lit (.bool true)], args := [d1, d2] }
  | _ => none }
def waveMakesRow : OpenClaim := { program := "ytjgibbccjijpaaa", sum := "679a951c9634699fb4666ce2bd6dc3ccff52fc5a7ae81dcb4a5e34eb3baf044b", func := "damask/damasklaw.WaveMakes", spec := "waveMakes", inPlace := ["internal/reflectlite.ValueOf", "internal/reflectlite.Swapper", "(internal/reflectlite.Value).Len"], unfollowed := true, recurses := true, apart := false }
def WaveMakesSaid : Prop := waveMakesRow.holds Try.pinned (OpenSpec.ofChange waveMakesSpec)

/-- ITS FALSE NEIGHBOUR: 'it returns false'. Refute it at one input. -/
def waveMakesWrong : ChangeSpec := { name := "waveMakes", fn := fun _ => fun
  | [d1, d2] => { results := [.lit (.bool false)], args := [d1, d2] }
  | _ => none }
def WaveMakesWrongFalsely : Prop := waveMakesRow.holds Try.pinned (OpenSpec.ofChange waveMakesWrong)

/-- 'damasklaw.WaveMays': WHATEVER THE INPUT: true; the input reads as it did. -/
def waveMaysSpec : ChangeSpec := { name := "waveMays", fn := fun _ => fun
  | [d] => { results := [.lit (.bool true)], args := [d] }
  | _ => none }
def waveMaysRow : OpenClaim := { program := "ytjgibbccjijpaaa", sum := "679a951c9634699fb4666ce2bd6dc3ccff52fc5a7ae81dcb4a5e34eb3baf044b", func := "damask/damasklaw.WaveMays", spec := "waveMays", apart := false }
def WaveMaysSaid : Prop := waveMaysRow.holds Try.pinned (OpenSpec.ofChange waveMaysSpec)

/-- ITS FALSE NEIGHBOUR: 'it returns false'. Refute it at one input. -/
def waveMaysWrong : ChangeSpec := { name := "waveMays", fn := fun _ => fun
  | [d] => { results := [.lit (.bool false)], args := [d] }
  | _ => none }
def WaveMaysWrongFalsely : Prop := waveMaysRow.holds Try.pinned (OpenSpec.ofChange waveMaysWrong)

/-- 'damasklaw.WaveAts': WHATEVER THE INPUT: true; the input reads as it did. -/
def waveAtsSpec : ChangeSpec := { name := "waveAts", fn := fun _ => fun
  | [d1, d2] => { results := [.lit (.bool true)], args := [d1, d2] }
  | _ => none }
def waveAtsRow : OpenClaim := { program := "ytjgibbccjijpaaa", sum := "679a951c9634699fb4666ce2bd6dc3ccff52fc5a7ae81dcb4a5e34eb3baf044b", func := "damask/damasklaw.WaveAts", spec := "waveAts", apart := false }
def WaveAtsSaid : Prop := waveAtsRow.holds Try.pinned (OpenSpec.ofChange waveAtsSpec)

/-- ITS FALSE NEIGHBOUR: 'it returns false'. Refute it at one input. -/
def waveAtsWrong : ChangeSpec := { name := "waveAts", fn := fun _ => fun
  | [d1, d2] => { results := [.lit (.bool false)], args := [d1, d2] }
  | _ => none }
def WaveAtsWrongFalsely : Prop := waveAtsRow.holds Try.pinned (OpenSpec.ofChange waveAtsWrong)

/-- 'damasklaw.WaveRanks': WHATEVER THE INPUT: true; the input reads as it did. -/
def waveRanksSpec : ChangeSpec := { name := "waveRanks", fn := fun _ => fun
  | [d1, d2, d3] => { results := [.lit (.bool true)], args := [d1, d2, d3] }
  | _ => none }
def waveRanksRow : OpenClaim := { program := "ytjgibbccjijpaaa", sum := "679a951c9634699fb4666ce2bd6dc3ccff52fc5a7ae81dcb4a5e34eb3baf044b", func := "damask/damasklaw.WaveRanks", spec := "waveRanks", apart := false }
def WaveRanksSaid : Prop := waveRanksRow.holds Try.pinned (OpenSpec.ofChange waveRanksSpec)

/-- ITS FALSE NEIGHBOUR: 'it returns false'. Refute it at one input. -/
def waveRanksWrong : ChangeSpec := { name := "waveRanks", fn := fun _ => fun
  | [d1, d2, d3] => { results := [.lit (.bool false)], args := [d1, d2, d3] }
  | _ => none }
def WaveRanksWrongFalsely : Prop := waveRanksRow.holds Try.pinned (OpenSpec.ofChange waveRanksWrong)

/-- 'damasklaw.WaveBelows': WHATEVER THE INPUT: true; the input reads as it did. -/
def waveBelowsSpec : ChangeSpec := { name := "waveBelows", fn := fun _ => fun
  | [d1, d2, d3, d4] => { results := [.lit (.bool true)], args := [d1, d2, d3, d4] }
  | _ => none }
def waveBelowsRow : OpenClaim := { program := "ytjgibbccjijpaaa", sum := "679a951c9634699fb4666ce2bd6dc3ccff52fc5a7ae81dcb4a5e34eb3baf044b", func := "damask/damasklaw.WaveBelows", spec := "waveBelows", recurses := true, apart := false }
def WaveBelowsSaid : Prop := waveBelowsRow.holds Try.pinned (OpenSpec.ofChange waveBelowsSpec)

/-- ITS FALSE NEIGHBOUR: 'it returns false'. Refute it at one input. -/
def waveBelowsWrong : ChangeSpec := { name := "waveBelows", fn := fun _ => fun
  | [d1, d2, d3, d4] => { results := [.lit (.bool false)], args := [d1, d2, d3, d4] }
  | _ => none }
def WaveBelowsWrongFalsely : Prop := waveBelowsRow.holds Try.pinned (OpenSpec.ofChange waveBelowsWrong)

/-- 'damasklaw.WaveKths': WHATEVER THE INPUT: true; the input reads as it did. -/
def waveKthsSpec : ChangeSpec := { name := "waveKths", fn := fun _ => fun
  | [d1, d2, d3, d4] => { results := [.lit (.bool true)], args := [d1, d2, d3, d4] }
  | _ => none }
def waveKthsRow : OpenClaim := { program := "ytjgibbccjijpaaa", sum := "679a951c9634699fb4666ce2bd6dc3ccff52fc5a7ae81dcb4a5e34eb3baf044b", func := "damask/damasklaw.WaveKths", spec := "waveKths", recurses := true, apart := false }
def WaveKthsSaid : Prop := waveKthsRow.holds Try.pinned (OpenSpec.ofChange waveKthsSpec)

/-- ITS FALSE NEIGHBOUR: 'it returns false'. Refute it at one input. -/
def waveKthsWrong : ChangeSpec := { name := "waveKths", fn := fun _ => fun
  | [d1, d2, d3, d4] => { results := [.lit (.bool false)], args := [d1, d2, d3, d4] }
  | _ => none }
def WaveKthsWrongFalsely : Prop := waveKthsRow.holds Try.pinned (OpenSpec.ofChange waveKthsWrong)

/-- 'damasklaw.WaveNexts': WHATEVER THE INPUT: true; the input reads as it did. -/
def waveNextsSpec : ChangeSpec := { name := "waveNexts", fn := fun _ => fun
  | [d1, d2, d3, d4] => { results := [.lit (.bool true)], args := [d1, d2, d3, d4] }
  | _ => none }
def waveNextsRow : OpenClaim := { program := "ytjgibbccjijpaaa", sum := "679a951c9634699fb4666ce2bd6dc3ccff52fc5a7ae81dcb4a5e34eb3baf044b", func := "damask/damasklaw.WaveNexts", spec := "waveNexts", recurses := true, apart := false }
def WaveNextsSaid : Prop := waveNextsRow.holds Try.pinned (OpenSpec.ofChange waveNextsSpec)

/-- ITS FALSE NEIGHBOUR: 'it returns false'. Refute it at one input. -/
def waveNextsWrong : ChangeSpec := { name := "waveNexts", fn := fun _ => fun
  | [d1, d2, d3, d4] => { results := [.lit (.bool false)], args := [d1, d2, d3, d4] }
  | _ => none }
def WaveNextsWrongFalsely : Prop := waveNextsRow.holds Try.pinned (OpenSpec.ofChange waveNextsWrong)

/-- 'damaskkeep.WaveBack': WHATEVER THE INPUT: true; the input reads as it did. -/
def waveBackSpec : ChangeSpec := { name := "waveBack", fn := fun _ => fun
  | [d1, d2] => { results := [.lit (.bool true)], args := [d1, d2] }
  | _ => none }
def waveBackRow : OpenClaim := { program := "ytjgibbccjijpaaa", sum := "679a951c9634699fb4666ce2bd6dc3ccff52fc5a7ae81dcb4a5e34eb3baf044b", func := "damask/damaskkeep.WaveBack", spec := "waveBack", unfollowed := true, recurses := true, apart := false }
def WaveBackSaid : Prop := waveBackRow.holds Try.pinned (OpenSpec.ofChange waveBackSpec)

/-- ITS FALSE NEIGHBOUR: 'it returns false'. Refute it at one input. -/
def waveBackWrong : ChangeSpec := { name := "waveBack", fn := fun _ => fun
  | [d1, d2] => { results := [.lit (.bool false)], args := [d1, d2] }
  | _ => none }
def WaveBackWrongFalsely : Prop := waveBackRow.holds Try.pinned (OpenSpec.ofChange waveBackWrong)

/-- 'damaskkeep.WaveSorts': WHATEVER THE INPUT: true; the input reads as it did. -/
def waveSortsSpec : ChangeSpec := { name := "waveSorts", fn := fun _ => fun
  | [d1, d2, d3, d4] => { results := [.lit (.bool true)], args := [d1, d2, d3, d4] }
  | _ => none }
def waveSortsRow : OpenClaim := { program := "ytjgibbccjijpaaa", sum := "679a951c9634699fb4666ce2bd6dc3ccff52fc5a7ae81dcb4a5e34eb3baf044b", func := "damask/damaskkeep.WaveSorts", spec := "waveSorts", unfollowed := true, recurses := true, apart := false }
def WaveSortsSaid : Prop := waveSortsRow.holds Try.pinned (OpenSpec.ofChange waveSortsSpec)

/-- ITS FALSE NEIGHBOUR: 'it returns false'. Refute it at one input. -/
def waveSortsWrong : ChangeSpec := { name := "waveSorts", fn := fun _ => fun
  | [d1, d2, d3, d4] => { results := [.lit (.bool false)], args := [d1, d2, d3, d4] }
  | _ => none }
def WaveSortsWrongFalsely : Prop := waveSortsRow.holds Try.pinned (OpenSpec.ofChange waveSortsWrong)

/-- 'damaskkeep.WaveSplit': WHATEVER THE INPUT: true; the input reads as it did. -/
def waveSplitSpec : ChangeSpec := { name := "waveSplit", fn := fun _ => fun
  | [d1, d2, d3, d4, d5, d6] => { results := [.lit (.bool true)], args := [d1, d2, d3, d4, d5, d6] }
  | _ => none }
def waveSplitRow : OpenClaim := { program := "ytjgibbccjijpaaa", sum := "679a951c9634699fb4666ce2bd6dc3ccff52fc5a7ae81dcb4a5e34eb3baf044b", func := "damask/damaskkeep.WaveSplit", spec := "waveSplit", unfollowed := true, recurses := true, apart := false }
def WaveSplitSaid : Prop := waveSplitRow.holds Try.pinned (OpenSpec.ofChange waveSplitSpec)

/-- ITS FALSE NEIGHBOUR: 'it returns false'. Refute it at one input. -/
def waveSplitWrong : ChangeSpec := { name := "waveSplit", fn := fun _ => fun
  | [d1, d2, d3, d4, d5, d6] => { results := [.lit (.bool false)], args := [d1, d2, d3, d4, d5, d6] }
  | _ => none }
def WaveSplitWrongFalsely : Prop := waveSplitRow.holds Try.pinned (OpenSpec.ofChange waveSplitWrong)

/-- 'damasktop.TopMax': WHATEVER THE INPUT: true; the input reads as it did. -/
def topMaxSpec : ChangeSpec := { name := "topMax", fn := fun _ => fun
  | [d1, d2, d3] => { results := [.lit (.bool true)], args := [d1, d2, d3] }
  | _ => none }
def topMaxRow : OpenClaim := { program := "ytjgibbccjijpaaa", sum := "679a951c9634699fb4666ce2bd6dc3ccff52fc5a7ae81dcb4a5e34eb3baf044b", func := "damask/damasktop.TopMax", spec := "topMax", unfollowed := true, recurses := true, apart := false }
def TopMaxSaid : Prop := topMaxRow.holds Try.pinned (OpenSpec.ofChange topMaxSpec)

/-- ITS FALSE NEIGHBOUR: 'it returns false'. Refute it at one input. -/
def topMaxWrong : ChangeSpec := { name := "topMax", fn := fun _ => fun
  | [d1, d2, d3] => { results := [.lit (.bool false)], args := [d1, d2, d3] }
  | _ => none }
def TopMaxWrongFalsely : Prop := topMaxRow.holds Try.pinned (OpenSpec.ofChange topMaxWrong)

/- THE SECOND FORM. 'bulk': how many values and letters a reading holds, each counted each time it is reached (what is shared counts as often as it is met; a slice's spare places count too). A statement '..UptoSaid' is the law's where the arguments, and the package variables that the reading takes, are together of bulk at most 1048576: NARROWER than '..Said'. Prove '..Said' where nothing that the law and all that it calls make is longer than what came in: it says more and counts as full. Else prove '..UptoSaid'. A law counts once. -/
mutual
def uptoBulk {H : Type} : DataW H → Nat
  | .lit (.string bytes) => bytes.length + 1
  | .lit _ => 1
  | .nil => 1
  | .ptr d => uptoBulk d + 1
  | .slice elems spare => uptoBulkAll elems + uptoBulkAll spare + 1
  | .agg parts => uptoBulkAll parts + 1
  | .iface _ d => uptoBulk d + 1
  | .map entries => uptoBulkEntries entries + 1
  | .held _ => 1
def uptoBulkAll {H : Type} : List (DataW H) → Nat
  | [] => 0
  | d :: r => uptoBulk d + uptoBulkAll r
def uptoBulkEntries {H : Type} : List (Lit × DataW H) → Nat
  | [] => 0
  | x :: r => uptoBulkEntry x + uptoBulkEntries r
def uptoBulkEntry {H : Type} : Lit × DataW H → Nat
  | (.string bytes, d) => bytes.length + uptoBulk d + 1
  | (_, d) => uptoBulk d + 1
 end
def uptoSmall : (H : Type) → List (DataW H) → Bool := fun _ ds => decide (uptoBulkAll ds ≤ 1048576)
def OpenSpec.upto (s : _root_.Go.ChangeSpec) : _root_.Go.OpenSpec := { _root_.Go.OpenSpec.ofChange s with cond := some uptoSmall }

/-- 'damasklaw.WaveMakes', WHERE WHAT IT READS IS OF BULK AT MOST 1048576: true; the input reads as it did. -/
def waveMakesUptoRow : OpenClaim := { program := "ytjgibbccjijpaaa", sum := "679a951c9634699fb4666ce2bd6dc3ccff52fc5a7ae81dcb4a5e34eb3baf044b", func := "damask/damasklaw.WaveMakes", spec := "waveMakes", inPlace := ["internal/reflectlite.ValueOf", "internal/reflectlite.Swapper", "(internal/reflectlite.Value).Len"], unfollowed := true, recurses := true, apart := false, narrowed := true }
def WaveMakesUptoSaid : Prop := waveMakesUptoRow.holds Try.pinned (OpenSpec.upto waveMakesSpec)

/-- 'damasklaw.WaveMays', WHERE WHAT IT READS IS OF BULK AT MOST 1048576: true; the input reads as it did. -/
def waveMaysUptoRow : OpenClaim := { program := "ytjgibbccjijpaaa", sum := "679a951c9634699fb4666ce2bd6dc3ccff52fc5a7ae81dcb4a5e34eb3baf044b", func := "damask/damasklaw.WaveMays", spec := "waveMays", apart := false, narrowed := true }
def WaveMaysUptoSaid : Prop := waveMaysUptoRow.holds Try.pinned (OpenSpec.upto waveMaysSpec)

/-- 'damasklaw.WaveAts', WHERE WHAT IT READS IS OF BULK AT MOST 1048576: true; the input reads as it did. -/
def waveAtsUptoRow : OpenClaim := { program := "ytjgibbccjijpaaa", sum := "679a951c9634699fb4666ce2bd6dc3ccff52fc5a7ae81dcb4a5e34eb3baf044b", func := "damask/damasklaw.WaveAts", spec := "waveAts", apart := false, narrowed := true }
def WaveAtsUptoSaid : Prop := waveAtsUptoRow.holds Try.pinned (OpenSpec.upto waveAtsSpec)

/-- 'damasklaw.WaveRanks', WHERE WHAT IT READS IS OF BULK AT MOST 1048576: true; the input reads as it did. -/
def waveRanksUptoRow : OpenClaim := { program := "ytjgibbccjijpaaa", sum := "679a951c9634699fb4666ce2bd6dc3ccff52fc5a7ae81dcb4a5e34eb3baf044b", func := "damask/damasklaw.WaveRanks", spec := "waveRanks", apart := false, narrowed := true }
def WaveRanksUptoSaid : Prop := waveRanksUptoRow.holds Try.pinned (OpenSpec.upto waveRanksSpec)

/-- 'damasklaw.WaveBelows', WHERE WHAT IT READS IS OF BULK AT MOST 1048576: true; the input reads as it did. -/
def waveBelowsUptoRow : OpenClaim := { program := "ytjgibbccjijpaaa", sum := "679a951c9634699fb4666ce2bd6dc3ccff52fc5a7ae81dcb4a5e34eb3baf044b", func := "damask/damasklaw.WaveBelows", spec := "waveBelows", recurses := true, apart := false, narrowed := true }
def WaveBelowsUptoSaid : Prop := waveBelowsUptoRow.holds Try.pinned (OpenSpec.upto waveBelowsSpec)

/-- 'damasklaw.WaveKths', WHERE WHAT IT READS IS OF BULK AT MOST 1048576: true; the input reads as it did. -/
def waveKthsUptoRow : OpenClaim := { program := "ytjgibbccjijpaaa", sum := "679a951c9634699fb4666ce2bd6dc3ccff52fc5a7ae81dcb4a5e34eb3baf044b", func := "damask/damasklaw.WaveKths", spec := "waveKths", recurses := true, apart := false, narrowed := true }
def WaveKthsUptoSaid : Prop := waveKthsUptoRow.holds Try.pinned (OpenSpec.upto waveKthsSpec)

/-- 'damasklaw.WaveNexts', WHERE WHAT IT READS IS OF BULK AT MOST 1048576: true; the input reads as it did. -/
def waveNextsUptoRow : OpenClaim := { program := "ytjgibbccjijpaaa", sum := "679a951c9634699fb4666ce2bd6dc3ccff52fc5a7ae81dcb4a5e34eb3baf044b", func := "damask/damasklaw.WaveNexts", spec := "waveNexts", recurses := true, apart := false, narrowed := true }
def WaveNextsUptoSaid : Prop := waveNextsUptoRow.holds Try.pinned (OpenSpec.upto waveNextsSpec)

/-- 'damaskkeep.WaveBack', WHERE WHAT IT READS IS OF BULK AT MOST 1048576: true; the input reads as it did. -/
def waveBackUptoRow : OpenClaim := { program := "ytjgibbccjijpaaa", sum := "679a951c9634699fb4666ce2bd6dc3ccff52fc5a7ae81dcb4a5e34eb3baf044b", func := "damask/damaskkeep.WaveBack", spec := "waveBack", unfollowed := true, recurses := true, apart := false, narrowed := true }
def WaveBackUptoSaid : Prop := waveBackUptoRow.holds Try.pinned (OpenSpec.upto waveBackSpec)

/-- 'damaskkeep.WaveSorts', WHERE WHAT IT READS IS OF BULK AT MOST 1048576: true; the input reads as it did. -/
def waveSortsUptoRow : OpenClaim := { program := "ytjgibbccjijpaaa", sum := "679a951c9634699fb4666ce2bd6dc3ccff52fc5a7ae81dcb4a5e34eb3baf044b", func := "damask/damaskkeep.WaveSorts", spec := "waveSorts", unfollowed := true, recurses := true, apart := false, narrowed := true }
def WaveSortsUptoSaid : Prop := waveSortsUptoRow.holds Try.pinned (OpenSpec.upto waveSortsSpec)

/-- 'damaskkeep.WaveSplit', WHERE WHAT IT READS IS OF BULK AT MOST 1048576: true; the input reads as it did. -/
def waveSplitUptoRow : OpenClaim := { program := "ytjgibbccjijpaaa", sum := "679a951c9634699fb4666ce2bd6dc3ccff52fc5a7ae81dcb4a5e34eb3baf044b", func := "damask/damaskkeep.WaveSplit", spec := "waveSplit", unfollowed := true, recurses := true, apart := false, narrowed := true }
def WaveSplitUptoSaid : Prop := waveSplitUptoRow.holds Try.pinned (OpenSpec.upto waveSplitSpec)

/-- 'damasktop.TopMax', WHERE WHAT IT READS IS OF BULK AT MOST 1048576: true; the input reads as it did. -/
def topMaxUptoRow : OpenClaim := { program := "ytjgibbccjijpaaa", sum := "679a951c9634699fb4666ce2bd6dc3ccff52fc5a7ae81dcb4a5e34eb3baf044b", func := "damask/damasktop.TopMax", spec := "topMax", unfollowed := true, recurses := true, apart := false, narrowed := true }
def TopMaxUptoSaid : Prop := topMaxUptoRow.holds Try.pinned (OpenSpec.upto topMaxSpec)

end Rows
end Go.Proofs.Ytjgibbccjijpaaa
