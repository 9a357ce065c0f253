/-
  DERIVED. GIVEN WITH THE SEED: THE CARDS: each row of YtpcjpdfigkcojaaDoorRows.lean that lists a variable, with what it lists TIED to the program's text (the seventh form; the later family's looks); each row that meets fmt, with fmt's text TOLD by the authors' own Lean function (tested against real Go, not proved from fmt's source: count such statements apart). THE CARD IS WHAT COUNTS. Prove the row's statement (the work); the ties are given (YtpcjpdfigkcojaaDoorTie.lean); close each card by the builder's one call (the guide's Derived/Test/ToyasCard.lean, 'card_holds'). Laid BY PROGRAM, IN A SANDBOX (cutbox-door.mjs). By AI agents, Wed Nov 11 2026. No macro, syntax, notation, axiom, sorry.
-/
import Derived.Test.YtpcjpdfigkcojaaDoorRows
import GoSem.ClaimSeven
namespace Go.Proofs.YtpcjpdfigkcojaaDoor
namespace Rows

/-- THE TIED CARD OF 'lyceumlaw02.FormNames'. -/
def formNamesCard : Claim7 := { stood := { row := formNamesRow, standIns := [], harness := (true, "503dd75be7667c0db83970b5e04d0832e5d2cc4bdb7b01ac5cf4e2a56ff18ee3"), looks := false }, kinds := [], alts := [], laidByText := true, laidKinds := [.data], laidTests := true, laidLooks := .later }
def FormNamesCardSaid : Prop := Claim7.holds Tryd.pinned (.plain (OpenSpec.ofChange formNamesSpec)) formNamesCard

/-- THE TIED CARD OF 'lyceumlaw02.FormCompares'. -/
def formComparesCard : Claim7 := { stood := { row := formComparesRow, standIns := [], harness := (true, "503dd75be7667c0db83970b5e04d0832e5d2cc4bdb7b01ac5cf4e2a56ff18ee3"), looks := false }, kinds := [], alts := [], laidByText := true, laidKinds := [.data], laidTests := true, laidLooks := .later }
def FormComparesCardSaid : Prop := Claim7.holds Tryd.pinned (.plain (OpenSpec.ofChange formComparesSpec)) formComparesCard

/-- THE TIED CARD OF 'lyceumlaw02.FormPlaces'. -/
def formPlacesCard : Claim7 := { stood := { row := formPlacesRow, standIns := [], harness := (true, "503dd75be7667c0db83970b5e04d0832e5d2cc4bdb7b01ac5cf4e2a56ff18ee3"), looks := false }, kinds := [], alts := [], laidByText := true, laidKinds := [.data], laidTests := true, laidLooks := .later }
def FormPlacesCardSaid : Prop := Claim7.holds Tryd.pinned (.plain (OpenSpec.ofChange formPlacesSpec)) formPlacesCard

/-- THE TIED CARD OF 'lyceumlaw02.FormOrder'. -/
def formOrderCard : Claim7 := { stood := { row := formOrderRow, standIns := [], harness := (true, "503dd75be7667c0db83970b5e04d0832e5d2cc4bdb7b01ac5cf4e2a56ff18ee3"), looks := false }, kinds := [], alts := [], laidByText := true, laidKinds := [.data], laidTests := true, laidLooks := .later }
def FormOrderCardSaid : Prop := Claim7.holds Tryd.pinned (.plain (OpenSpec.ofChange formOrderSpec)) formOrderCard

/-- THE SECOND FORM's CARD OF 'lyceumlaw02.FormNames'. -/
def formNamesUptoCard : Claim7 := { stood := { row := formNamesUptoRow, standIns := [], harness := (true, "503dd75be7667c0db83970b5e04d0832e5d2cc4bdb7b01ac5cf4e2a56ff18ee3"), looks := false }, kinds := [], alts := [], laidByText := true, laidKinds := [.data], laidTests := true, laidLooks := .later }
def FormNamesUptoCardSaid : Prop := Claim7.holds Tryd.pinned (.plain (OpenSpec.upto formNamesSpec)) formNamesUptoCard

/-- THE SECOND FORM's CARD OF 'lyceumlaw02.FormCompares'. -/
def formComparesUptoCard : Claim7 := { stood := { row := formComparesUptoRow, standIns := [], harness := (true, "503dd75be7667c0db83970b5e04d0832e5d2cc4bdb7b01ac5cf4e2a56ff18ee3"), looks := false }, kinds := [], alts := [], laidByText := true, laidKinds := [.data], laidTests := true, laidLooks := .later }
def FormComparesUptoCardSaid : Prop := Claim7.holds Tryd.pinned (.plain (OpenSpec.upto formComparesSpec)) formComparesUptoCard

/-- THE SECOND FORM's CARD OF 'lyceumlaw02.FormPlaces'. -/
def formPlacesUptoCard : Claim7 := { stood := { row := formPlacesUptoRow, standIns := [], harness := (true, "503dd75be7667c0db83970b5e04d0832e5d2cc4bdb7b01ac5cf4e2a56ff18ee3"), looks := false }, kinds := [], alts := [], laidByText := true, laidKinds := [.data], laidTests := true, laidLooks := .later }
def FormPlacesUptoCardSaid : Prop := Claim7.holds Tryd.pinned (.plain (OpenSpec.upto formPlacesSpec)) formPlacesUptoCard

/-- THE SECOND FORM's CARD OF 'lyceumlaw02.FormOrder'. -/
def formOrderUptoCard : Claim7 := { stood := { row := formOrderUptoRow, standIns := [], harness := (true, "503dd75be7667c0db83970b5e04d0832e5d2cc4bdb7b01ac5cf4e2a56ff18ee3"), looks := false }, kinds := [], alts := [], laidByText := true, laidKinds := [.data], laidTests := true, laidLooks := .later }
def FormOrderUptoCardSaid : Prop := Claim7.holds Tryd.pinned (.plain (OpenSpec.upto formOrderSpec)) formOrderUptoCard
end Rows
end Go.Proofs.YtpcjpdfigkcojaaDoor
