/-
  DERIVED. GIVEN WITH THE SEED: THE CARDS: each row of YtngdieldgnlogaaDoorRows.lean that lists a variable, with what it lists TIED to the program's text (the seventh form; the later family's looks); each row that meets fmt, with fmt's text TOLD by the authors' own Lean function (tested against real Go, not proved from fmt's source: count such statements apart). THE CARD IS WHAT COUNTS. Prove the row's statement (the work); the ties are given (YtngdieldgnlogaaDoorTie.lean); close each card by the builder's one call (the guide's Derived/Test/ToyasCard.lean, 'card_holds'). Laid BY PROGRAM, IN A SANDBOX (cutbox-door.mjs). By AI agents, Wed Nov 11 2026. No macro, syntax, notation, axiom, sorry.
-/
import Derived.Test.YtngdieldgnlogaaDoorRows
import GoSem.ClaimSeven
namespace Go.Proofs.YtngdieldgnlogaaDoor
namespace Rows

/-- THE TIED CARD OF 'lyceumlaw02.FormPlaces'. -/
def formPlacesCard : Claim7 := { stood := { row := formPlacesRow, standIns := [], harness := (true, "03c7dd123a781c3b72c4efa90e55e93286ed0947579a47675030f783fad7cd01"), looks := false }, kinds := [], alts := [], laidByText := true, laidKinds := [.data], laidTests := true, laidLooks := .later }
def FormPlacesCardSaid : Prop := Claim7.holds Tryd.pinned (.plain (OpenSpec.ofChange formPlacesSpec)) formPlacesCard

/-- THE TIED CARD OF 'lyceumlaw02.FormReplaces'. -/
def formReplacesCard : Claim7 := { stood := { row := formReplacesRow, standIns := [], harness := (true, "03c7dd123a781c3b72c4efa90e55e93286ed0947579a47675030f783fad7cd01"), looks := false }, kinds := [], alts := [], laidByText := true, laidKinds := [.data], laidTests := true, laidLooks := .later }
def FormReplacesCardSaid : Prop := Claim7.holds Tryd.pinned (.plain (OpenSpec.ofChange formReplacesSpec)) formReplacesCard

/-- THE TIED CARD OF 'lyceumlaw02.FormParts'. -/
def formPartsCard : Claim7 := { stood := { row := formPartsRow, standIns := [], harness := (true, "03c7dd123a781c3b72c4efa90e55e93286ed0947579a47675030f783fad7cd01"), looks := false }, kinds := [], alts := [], laidByText := true, laidKinds := [.data], laidTests := true, laidLooks := .later }
def FormPartsCardSaid : Prop := Claim7.holds Tryd.pinned (.plain (OpenSpec.ofChange formPartsSpec)) formPartsCard

/-- THE TIED CARD OF 'lyceumlaw02.FormWrong'. -/
def formWrongCard : Claim7 := { stood := { row := formWrongRow, standIns := [], harness := (true, "03c7dd123a781c3b72c4efa90e55e93286ed0947579a47675030f783fad7cd01"), looks := false }, kinds := [], alts := [], laidByText := true, laidKinds := [.data], laidTests := true, laidLooks := .later }
def FormWrongCardSaid : Prop := Claim7.holds Tryd.pinned (.plain (OpenSpec.ofChange formWrongSpec)) formWrongCard

/-- THE SECOND FORM's CARD OF 'lyceumlaw02.FormPlaces'. -/
def formPlacesUptoCard : Claim7 := { stood := { row := formPlacesUptoRow, standIns := [], harness := (true, "03c7dd123a781c3b72c4efa90e55e93286ed0947579a47675030f783fad7cd01"), looks := false }, kinds := [], alts := [], laidByText := true, laidKinds := [.data], laidTests := true, laidLooks := .later }
def FormPlacesUptoCardSaid : Prop := Claim7.holds Tryd.pinned (.plain (OpenSpec.upto formPlacesSpec)) formPlacesUptoCard

/-- THE SECOND FORM's CARD OF 'lyceumlaw02.FormReplaces'. -/
def formReplacesUptoCard : Claim7 := { stood := { row := formReplacesUptoRow, standIns := [], harness := (true, "03c7dd123a781c3b72c4efa90e55e93286ed0947579a47675030f783fad7cd01"), looks := false }, kinds := [], alts := [], laidByText := true, laidKinds := [.data], laidTests := true, laidLooks := .later }
def FormReplacesUptoCardSaid : Prop := Claim7.holds Tryd.pinned (.plain (OpenSpec.upto formReplacesSpec)) formReplacesUptoCard

/-- THE SECOND FORM's CARD OF 'lyceumlaw02.FormParts'. -/
def formPartsUptoCard : Claim7 := { stood := { row := formPartsUptoRow, standIns := [], harness := (true, "03c7dd123a781c3b72c4efa90e55e93286ed0947579a47675030f783fad7cd01"), looks := false }, kinds := [], alts := [], laidByText := true, laidKinds := [.data], laidTests := true, laidLooks := .later }
def FormPartsUptoCardSaid : Prop := Claim7.holds Tryd.pinned (.plain (OpenSpec.upto formPartsSpec)) formPartsUptoCard

/-- THE SECOND FORM's CARD OF 'lyceumlaw02.FormWrong'. -/
def formWrongUptoCard : Claim7 := { stood := { row := formWrongUptoRow, standIns := [], harness := (true, "03c7dd123a781c3b72c4efa90e55e93286ed0947579a47675030f783fad7cd01"), looks := false }, kinds := [], alts := [], laidByText := true, laidKinds := [.data], laidTests := true, laidLooks := .later }
def FormWrongUptoCardSaid : Prop := Claim7.holds Tryd.pinned (.plain (OpenSpec.upto formWrongSpec)) formWrongUptoCard
end Rows
end Go.Proofs.YtngdieldgnlogaaDoor
