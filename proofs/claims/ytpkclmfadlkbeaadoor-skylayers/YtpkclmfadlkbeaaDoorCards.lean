/-
  DERIVED. GIVEN WITH THE SEED: THE CARDS: each row of YtpkclmfadlkbeaaDoorRows.lean that lists a variable, with what it lists TIED to the program's text (the seventh form; the later family's looks); each row that meets fmt, with fmt's text TOLD by the authors' own Lean function (tested against real Go, not proved from fmt's source: count such statements apart). THE CARD IS WHAT COUNTS. Prove the row's statement (the work); the ties are given (YtpkclmfadlkbeaaDoorTie.lean); close each card by the builder's one call (the guide's Derived/Test/ToyasCard.lean, 'card_holds'). Laid BY PROGRAM, IN A SANDBOX (cutbox-door.mjs). By AI agents, Wed Nov 11 2026. No macro, syntax, notation, axiom, sorry.
-/
import Derived.Test.YtpkclmfadlkbeaaDoorRows
import GoSem.ClaimSeven
namespace Go.Proofs.YtpkclmfadlkbeaaDoor
namespace Rows

/-- THE TIED CARD OF 'damasklaw.SkySkies'. -/
def skySkiesCard : Claim7 := { stood := { row := skySkiesRow, standIns := [], harness := (true, "e238aebeadf4dfc84d2404cf205fb1df9930a523ecbaa1bedc30cf7b4654623a"), looks := false }, kinds := [], alts := [], laidByText := true, laidKinds := [.data], laidTests := true, laidLooks := .later }
def SkySkiesCardSaid : Prop := Claim7.holds Tryd.pinned (.plain (OpenSpec.ofChange skySkiesSpec)) skySkiesCard

/-- THE TIED CARD OF 'damasklaw.SkyLayers'. -/
def skyLayersCard : Claim7 := { stood := { row := skyLayersRow, standIns := [], harness := (true, "e238aebeadf4dfc84d2404cf205fb1df9930a523ecbaa1bedc30cf7b4654623a"), looks := false }, kinds := [], alts := [], laidByText := true, laidKinds := [.data], laidTests := true, laidLooks := .later }
def SkyLayersCardSaid : Prop := Claim7.holds Tryd.pinned (.plain (OpenSpec.ofChange skyLayersSpec)) skyLayersCard

/-- THE SECOND FORM's CARD OF 'damasklaw.SkySkies'. -/
def skySkiesUptoCard : Claim7 := { stood := { row := skySkiesUptoRow, standIns := [], harness := (true, "e238aebeadf4dfc84d2404cf205fb1df9930a523ecbaa1bedc30cf7b4654623a"), looks := false }, kinds := [], alts := [], laidByText := true, laidKinds := [.data], laidTests := true, laidLooks := .later }
def SkySkiesUptoCardSaid : Prop := Claim7.holds Tryd.pinned (.plain (OpenSpec.upto skySkiesSpec)) skySkiesUptoCard

/-- THE SECOND FORM's CARD OF 'damasklaw.SkyLayers'. -/
def skyLayersUptoCard : Claim7 := { stood := { row := skyLayersUptoRow, standIns := [], harness := (true, "e238aebeadf4dfc84d2404cf205fb1df9930a523ecbaa1bedc30cf7b4654623a"), looks := false }, kinds := [], alts := [], laidByText := true, laidKinds := [.data], laidTests := true, laidLooks := .later }
def SkyLayersUptoCardSaid : Prop := Claim7.holds Tryd.pinned (.plain (OpenSpec.upto skyLayersSpec)) skyLayersUptoCard
end Rows
end Go.Proofs.YtpkclmfadlkbeaaDoor
