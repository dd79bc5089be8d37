/-
  DERIVED. GIVEN WITH THE SEED: THE CARDS: each row of YtjdgejjpkjhdjaaDoorRows.lean that lists a variable, with what it lists TIED to the program's text (the seventh form; the later family's looks); each row that meets fmt, with fmt's text TOLD by the authors' own Lean function (tested against real Go, not proved from fmt's source: count such statements apart). THE CARD IS WHAT COUNTS. Prove the row's statement (the work); the ties are given (YtjdgejjpkjhdjaaDoorTie.lean); close each card by the builder's one call (the guide's Derived/Test/ToyasCard.lean, 'card_holds'). Laid BY PROGRAM, IN A SANDBOX (cutbox-door.mjs). By AI agents, Wed Nov 11 2026. No macro, syntax, notation, axiom, sorry.
-/
import Derived.Test.YtjdgejjpkjhdjaaDoorRows
import GoSem.ClaimSeven
namespace Go.Proofs.YtjdgejjpkjhdjaaDoor
namespace Rows

/-- THE TIED CARD OF 'damasklaw.PopSelects'. -/
def popSelectsCard : Claim7 := { stood := { row := popSelectsRow, standIns := [], harness := (true, "f9d14207af7ff59d8184cf603ea2bbaf2f6bb58f23107e3f5208280a436703ee"), looks := false }, kinds := [], alts := [], laidByText := true, laidKinds := [.data], laidTests := true, laidLooks := .later }
def PopSelectsCardSaid : Prop := Claim7.holds Tryd.pinned (.plain (OpenSpec.ofChange popSelectsSpec)) popSelectsCard

/-- THE TIED CARD OF 'damaskkeep.SelectRank'. -/
def selectRankCard : Claim7 := { stood := { row := selectRankRow, standIns := [], harness := (true, "f9d14207af7ff59d8184cf603ea2bbaf2f6bb58f23107e3f5208280a436703ee"), looks := false }, kinds := [], alts := [], laidByText := true, laidKinds := [.data], laidTests := true, laidLooks := .later }
def SelectRankCardSaid : Prop := Claim7.holds Tryd.pinned (.plain (OpenSpec.ofChange selectRankSpec)) selectRankCard

/-- THE SECOND FORM's CARD OF 'damasklaw.PopSelects'. -/
def popSelectsUptoCard : Claim7 := { stood := { row := popSelectsUptoRow, standIns := [], harness := (true, "f9d14207af7ff59d8184cf603ea2bbaf2f6bb58f23107e3f5208280a436703ee"), looks := false }, kinds := [], alts := [], laidByText := true, laidKinds := [.data], laidTests := true, laidLooks := .later }
def PopSelectsUptoCardSaid : Prop := Claim7.holds Tryd.pinned (.plain (OpenSpec.upto popSelectsSpec)) popSelectsUptoCard

/-- THE SECOND FORM's CARD OF 'damaskkeep.SelectRank'. -/
def selectRankUptoCard : Claim7 := { stood := { row := selectRankUptoRow, standIns := [], harness := (true, "f9d14207af7ff59d8184cf603ea2bbaf2f6bb58f23107e3f5208280a436703ee"), looks := false }, kinds := [], alts := [], laidByText := true, laidKinds := [.data], laidTests := true, laidLooks := .later }
def SelectRankUptoCardSaid : Prop := Claim7.holds Tryd.pinned (.plain (OpenSpec.upto selectRankSpec)) selectRankUptoCard
end Rows
end Go.Proofs.YtjdgejjpkjhdjaaDoor
