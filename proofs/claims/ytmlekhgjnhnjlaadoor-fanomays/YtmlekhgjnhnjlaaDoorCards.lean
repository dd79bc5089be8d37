/-
  DERIVED. GIVEN WITH THE SEED: THE CARDS: each row of YtmlekhgjnhnjlaaDoorRows.lean that lists a variable, with what it lists TIED to the program's text (the seventh form; the later family's looks); each row that meets fmt, with fmt's text TOLD by the authors' own Lean function (tested against real Go, not proved from fmt's source: count such statements apart). THE CARD IS WHAT COUNTS. Prove the row's statement (the work); the ties are given (YtmlekhgjnhnjlaaDoorTie.lean); close each card by the builder's one call (the guide's Derived/Test/ToyasCard.lean, 'card_holds'). Laid BY PROGRAM, IN A SANDBOX (cutbox-door.mjs). By AI agents, Wed Nov 11 2026. No macro, syntax, notation, axiom, sorry.
-/
import Derived.Test.YtmlekhgjnhnjlaaDoorRows
import GoSem.ClaimSeven
namespace Go.Proofs.YtmlekhgjnhnjlaaDoor
namespace Rows

/-- THE TIED CARD OF 'damasklaw.FanoMays'. -/
def fanoMaysCard : Claim7 := { stood := { row := fanoMaysRow, standIns := [], harness := (true, "a810195525fcbec78bc6bb90b5ec27dd7ea3facb991b9a6aa2dabf128cf97b69"), looks := false }, kinds := [], alts := [], laidByText := true, laidKinds := [.data], laidTests := true, laidLooks := .later }
def FanoMaysCardSaid : Prop := Claim7.holds Tryd.pinned (.plain (OpenSpec.ofChange fanoMaysSpec)) fanoMaysCard

/-- THE TIED CARD OF 'damasklaw.FanoAts'. -/
def fanoAtsCard : Claim7 := { stood := { row := fanoAtsRow, standIns := [], harness := (true, "a810195525fcbec78bc6bb90b5ec27dd7ea3facb991b9a6aa2dabf128cf97b69"), looks := false }, kinds := [], alts := [], laidByText := true, laidKinds := [.data], laidTests := true, laidLooks := .later }
def FanoAtsCardSaid : Prop := Claim7.holds Tryd.pinned (.plain (OpenSpec.ofChange fanoAtsSpec)) fanoAtsCard

/-- THE TIED CARD OF 'damasklaw.FanoNexts'. -/
def fanoNextsCard : Claim7 := { stood := { row := fanoNextsRow, standIns := [], harness := (true, "a810195525fcbec78bc6bb90b5ec27dd7ea3facb991b9a6aa2dabf128cf97b69"), looks := false }, kinds := [], alts := [], laidByText := true, laidKinds := [.data], laidTests := true, laidLooks := .later }
def FanoNextsCardSaid : Prop := Claim7.holds Tryd.pinned (.plain (OpenSpec.ofChange fanoNextsSpec)) fanoNextsCard

/-- THE TIED CARD OF 'damaskkeep.FanoBack'. -/
def fanoBackCard : Claim7 := { stood := { row := fanoBackRow, standIns := [], harness := (true, "a810195525fcbec78bc6bb90b5ec27dd7ea3facb991b9a6aa2dabf128cf97b69"), looks := false }, kinds := [], alts := [], laidByText := true, laidKinds := [.data], laidTests := true, laidLooks := .later }
def FanoBackCardSaid : Prop := Claim7.holds Tryd.pinned (.plain (OpenSpec.ofChange fanoBackSpec)) fanoBackCard

/-- THE TIED CARD OF 'damaskkeep.FanoFinds'. -/
def fanoFindsCard : Claim7 := { stood := { row := fanoFindsRow, standIns := [], harness := (true, "a810195525fcbec78bc6bb90b5ec27dd7ea3facb991b9a6aa2dabf128cf97b69"), looks := false }, kinds := [], alts := [], laidByText := true, laidKinds := [.data], laidTests := true, laidLooks := .later }
def FanoFindsCardSaid : Prop := Claim7.holds Tryd.pinned (.plain (OpenSpec.ofChange fanoFindsSpec)) fanoFindsCard

/-- THE SECOND FORM's CARD OF 'damasklaw.FanoMays'. -/
def fanoMaysUptoCard : Claim7 := { stood := { row := fanoMaysUptoRow, standIns := [], harness := (true, "a810195525fcbec78bc6bb90b5ec27dd7ea3facb991b9a6aa2dabf128cf97b69"), looks := false }, kinds := [], alts := [], laidByText := true, laidKinds := [.data], laidTests := true, laidLooks := .later }
def FanoMaysUptoCardSaid : Prop := Claim7.holds Tryd.pinned (.plain (OpenSpec.upto fanoMaysSpec)) fanoMaysUptoCard

/-- THE SECOND FORM's CARD OF 'damasklaw.FanoAts'. -/
def fanoAtsUptoCard : Claim7 := { stood := { row := fanoAtsUptoRow, standIns := [], harness := (true, "a810195525fcbec78bc6bb90b5ec27dd7ea3facb991b9a6aa2dabf128cf97b69"), looks := false }, kinds := [], alts := [], laidByText := true, laidKinds := [.data], laidTests := true, laidLooks := .later }
def FanoAtsUptoCardSaid : Prop := Claim7.holds Tryd.pinned (.plain (OpenSpec.upto fanoAtsSpec)) fanoAtsUptoCard

/-- THE SECOND FORM's CARD OF 'damasklaw.FanoNexts'. -/
def fanoNextsUptoCard : Claim7 := { stood := { row := fanoNextsUptoRow, standIns := [], harness := (true, "a810195525fcbec78bc6bb90b5ec27dd7ea3facb991b9a6aa2dabf128cf97b69"), looks := false }, kinds := [], alts := [], laidByText := true, laidKinds := [.data], laidTests := true, laidLooks := .later }
def FanoNextsUptoCardSaid : Prop := Claim7.holds Tryd.pinned (.plain (OpenSpec.upto fanoNextsSpec)) fanoNextsUptoCard

/-- THE SECOND FORM's CARD OF 'damaskkeep.FanoBack'. -/
def fanoBackUptoCard : Claim7 := { stood := { row := fanoBackUptoRow, standIns := [], harness := (true, "a810195525fcbec78bc6bb90b5ec27dd7ea3facb991b9a6aa2dabf128cf97b69"), looks := false }, kinds := [], alts := [], laidByText := true, laidKinds := [.data], laidTests := true, laidLooks := .later }
def FanoBackUptoCardSaid : Prop := Claim7.holds Tryd.pinned (.plain (OpenSpec.upto fanoBackSpec)) fanoBackUptoCard

/-- THE SECOND FORM's CARD OF 'damaskkeep.FanoFinds'. -/
def fanoFindsUptoCard : Claim7 := { stood := { row := fanoFindsUptoRow, standIns := [], harness := (true, "a810195525fcbec78bc6bb90b5ec27dd7ea3facb991b9a6aa2dabf128cf97b69"), looks := false }, kinds := [], alts := [], laidByText := true, laidKinds := [.data], laidTests := true, laidLooks := .later }
def FanoFindsUptoCardSaid : Prop := Claim7.holds Tryd.pinned (.plain (OpenSpec.upto fanoFindsSpec)) fanoFindsUptoCard
end Rows
end Go.Proofs.YtmlekhgjnhnjlaaDoor
