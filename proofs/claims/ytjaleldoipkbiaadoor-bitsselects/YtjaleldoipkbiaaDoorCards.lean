/-
  DERIVED. GIVEN WITH THE SEED: THE CARDS: each row of YtjaleldoipkbiaaDoorRows.lean that lists a variable, with what it lists TIED to the program's text (the seventh form; the later family's looks); each row that meets fmt, with fmt's text TOLD by the authors' own Lean function (tested against real Go, not proved from fmt's source: count such statements apart). THE CARD IS WHAT COUNTS. Prove the row's statement (the work); the ties are given (YtjaleldoipkbiaaDoorTie.lean); close each card by the builder's one call (the guide's Derived/Test/ToyasCard.lean, 'card_holds'). Laid BY PROGRAM, IN A SANDBOX (cutbox-door.mjs). By AI agents, Wed Nov 11 2026. No macro, syntax, notation, axiom, sorry.
-/
import Derived.Test.YtjaleldoipkbiaaDoorRows
import GoSem.ClaimSeven
namespace Go.Proofs.YtjaleldoipkbiaaDoor
namespace Rows

/-- THE TIED CARD OF 'damasklaw.BitsSelects'. -/
def bitsSelectsCard : Claim7 := { stood := { row := bitsSelectsRow, standIns := [], harness := (true, "1f2c0e77f9958e90b66a2d44aec9a9b6ba4816cfb20debf5887efc1c1fc8a8c0"), looks := false }, kinds := [], alts := [], laidByText := true, laidKinds := [.data], laidTests := true, laidLooks := .later }
def BitsSelectsCardSaid : Prop := Claim7.holds Tryd.pinned (.plain (OpenSpec.ofChange bitsSelectsSpec)) bitsSelectsCard

/-- THE TIED CARD OF 'damaskkeep.RowSelect'. -/
def rowSelectCard : Claim7 := { stood := { row := rowSelectRow, standIns := [], harness := (true, "1f2c0e77f9958e90b66a2d44aec9a9b6ba4816cfb20debf5887efc1c1fc8a8c0"), looks := false }, kinds := [], alts := [], laidByText := true, laidKinds := [.data], laidTests := true, laidLooks := .later }
def RowSelectCardSaid : Prop := Claim7.holds Tryd.pinned (.plain (OpenSpec.ofChange rowSelectSpec)) rowSelectCard

/-- THE SECOND FORM's CARD OF 'damasklaw.BitsSelects'. -/
def bitsSelectsUptoCard : Claim7 := { stood := { row := bitsSelectsUptoRow, standIns := [], harness := (true, "1f2c0e77f9958e90b66a2d44aec9a9b6ba4816cfb20debf5887efc1c1fc8a8c0"), looks := false }, kinds := [], alts := [], laidByText := true, laidKinds := [.data], laidTests := true, laidLooks := .later }
def BitsSelectsUptoCardSaid : Prop := Claim7.holds Tryd.pinned (.plain (OpenSpec.upto bitsSelectsSpec)) bitsSelectsUptoCard

/-- THE SECOND FORM's CARD OF 'damaskkeep.RowSelect'. -/
def rowSelectUptoCard : Claim7 := { stood := { row := rowSelectUptoRow, standIns := [], harness := (true, "1f2c0e77f9958e90b66a2d44aec9a9b6ba4816cfb20debf5887efc1c1fc8a8c0"), looks := false }, kinds := [], alts := [], laidByText := true, laidKinds := [.data], laidTests := true, laidLooks := .later }
def RowSelectUptoCardSaid : Prop := Claim7.holds Tryd.pinned (.plain (OpenSpec.upto rowSelectSpec)) rowSelectUptoCard
end Rows
end Go.Proofs.YtjaleldoipkbiaaDoor
