/-
  DERIVED. GIVEN WITH THE SEED: THE CARDS: each row of YtngdieldgnlogaaGreatDoorRows.lean that lists a variable, with what it lists TIED to the program's text (the seventh form; the later family's looks); each row that meets fmt, with fmt's text TOLD by the authors' own Lean function (tested against real Go, not proved from fmt's source: count such statements apart). THE CARD IS WHAT COUNTS. Prove the row's statement (the work); the ties are given (YtngdieldgnlogaaGreatDoorTie.lean); close each card by the builder's one call (the guide's Derived/Test/ToyasCard.lean, 'card_holds'). Laid BY PROGRAM, IN A SANDBOX (cutbox-door.mjs). By AI agents, Wed Nov 11 2026. No macro, syntax, notation, axiom, sorry.
-/
import Derived.Test.YtngdieldgnlogaaGreatDoorRows
import GoSem.ClaimSeven
namespace Go.Proofs.YtngdieldgnlogaaGreatDoor
namespace Rows

/-- THE TIED CARD OF 'lyceumlaw02.FormAsks'. -/
def formAsksCard : Claim7 := { stood := { row := formAsksRow, standIns := [], harness := (true, "42c5420464ffbae681ce9acbb92b6649ffeaf0bf23a1c41d48324da3b425fa9d"), looks := false }, kinds := [], alts := [], laidByText := true, laidKinds := [.data], laidTests := true, laidLooks := .later }
def FormAsksCardSaid : Prop := Claim7.holds Tryz.pinned (.plain (OpenSpec.ofChange formAsksSpec)) formAsksCard

/-- THE TIED CARD OF 'lyceumlaw02.FormSmall'. -/
def formSmallCard : Claim7 := { stood := { row := formSmallRow, standIns := [], harness := (true, "42c5420464ffbae681ce9acbb92b6649ffeaf0bf23a1c41d48324da3b425fa9d"), looks := false }, kinds := [], alts := [], laidByText := true, laidKinds := [.data], laidTests := true, laidLooks := .later }
def FormSmallCardSaid : Prop := Claim7.holds Tryz.pinned (.plain (OpenSpec.ofChange formSmallSpec)) formSmallCard

/-- THE SECOND FORM's CARD OF 'lyceumlaw02.FormAsks'. -/
def formAsksUptoCard : Claim7 := { stood := { row := formAsksUptoRow, standIns := [], harness := (true, "42c5420464ffbae681ce9acbb92b6649ffeaf0bf23a1c41d48324da3b425fa9d"), looks := false }, kinds := [], alts := [], laidByText := true, laidKinds := [.data], laidTests := true, laidLooks := .later }
def FormAsksUptoCardSaid : Prop := Claim7.holds Tryz.pinned (.plain (OpenSpec.upto formAsksSpec)) formAsksUptoCard

/-- THE SECOND FORM's CARD OF 'lyceumlaw02.FormSmall'. -/
def formSmallUptoCard : Claim7 := { stood := { row := formSmallUptoRow, standIns := [], harness := (true, "42c5420464ffbae681ce9acbb92b6649ffeaf0bf23a1c41d48324da3b425fa9d"), looks := false }, kinds := [], alts := [], laidByText := true, laidKinds := [.data], laidTests := true, laidLooks := .later }
def FormSmallUptoCardSaid : Prop := Claim7.holds Tryz.pinned (.plain (OpenSpec.upto formSmallSpec)) formSmallUptoCard
end Rows
end Go.Proofs.YtngdieldgnlogaaGreatDoor
