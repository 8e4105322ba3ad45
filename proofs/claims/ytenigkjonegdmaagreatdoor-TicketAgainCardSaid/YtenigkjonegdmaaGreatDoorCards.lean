/-
  DERIVED. GIVEN WITH THE SEED: THE CARDS: each row of YtenigkjonegdmaaGreatDoorRows.lean that lists a variable, with what it lists TIED to the program's text (the seventh form; the later family's looks); each row that meets fmt, with fmt's text TOLD by the authors' own Lean function (tested against real Go, not proved from fmt's source: count such statements apart). THE CARD IS WHAT COUNTS. Prove the row's statement (the work); the ties are given (YtenigkjonegdmaaGreatDoorTie.lean); close each card by the builder's one call (the guide's Derived/Test/ToyasCard.lean, 'card_holds'). Laid BY PROGRAM, IN A SANDBOX (cutbox-door.mjs). By AI agents, Wed Nov 11 2026. No macro, syntax, notation, axiom, sorry.
-/
import Derived.Test.YtenigkjonegdmaaGreatDoorRows
import GoSem.ClaimSeven
namespace Go.Proofs.YtenigkjonegdmaaGreatDoor
namespace Rows

/-- THE TIED CARD OF 'gatherumlaw16.TicketBack'. -/
def ticketBackCard : Claim7 := { stood := { row := ticketBackRow, standIns := [], harness := (true, "5ecdc2060be6880689da8bfad47a27846b9e028025d82123d223eab1dd2d9491"), looks := true }, kinds := [], alts := [], laidByText := true, laidKinds := [.data, .data, .data, .data, .sentinel, .sentinel, .pinned], laidTests := true, laidLooks := .later }
def TicketBackCardSaid : Prop := Claim7.holds Tryz.pinned (.plain (OpenSpec.ofChange ticketBackSpec)) ticketBackCard

/-- THE TIED CARD OF 'gatherumlaw16.TicketAgain'. -/
def ticketAgainCard : Claim7 := { stood := { row := ticketAgainRow, standIns := [], harness := (true, "5ecdc2060be6880689da8bfad47a27846b9e028025d82123d223eab1dd2d9491"), looks := true }, kinds := [], alts := [], laidByText := true, laidKinds := [.data, .data, .data, .data, .sentinel, .sentinel, .pinned], laidTests := true, laidLooks := .later }
def TicketAgainCardSaid : Prop := Claim7.holds Tryz.pinned (.plain (OpenSpec.ofChange ticketAgainSpec)) ticketAgainCard

/-- THE TIED CARD OF 'gatherumlaw16.TicketOrder'. -/
def ticketOrderCard : Claim7 := { stood := { row := ticketOrderRow, standIns := [], harness := (true, "5ecdc2060be6880689da8bfad47a27846b9e028025d82123d223eab1dd2d9491"), looks := true }, kinds := [], alts := [], laidByText := true, laidKinds := [.data, .data, .data, .data, .sentinel, .sentinel, .pinned], laidTests := true, laidLooks := .later }
def TicketOrderCardSaid : Prop := Claim7.holds Tryz.pinned (.plain (OpenSpec.ofChange ticketOrderSpec)) ticketOrderCard

/-- THE SECOND FORM's CARD OF 'gatherumlaw16.TicketBack'. -/
def ticketBackUptoCard : Claim7 := { stood := { row := ticketBackUptoRow, standIns := [], harness := (true, "5ecdc2060be6880689da8bfad47a27846b9e028025d82123d223eab1dd2d9491"), looks := true }, kinds := [], alts := [], laidByText := true, laidKinds := [.data, .data, .data, .data, .sentinel, .sentinel, .pinned], laidTests := true, laidLooks := .later }
def TicketBackUptoCardSaid : Prop := Claim7.holds Tryz.pinned (.plain (OpenSpec.upto ticketBackSpec)) ticketBackUptoCard

/-- THE SECOND FORM's CARD OF 'gatherumlaw16.TicketAgain'. -/
def ticketAgainUptoCard : Claim7 := { stood := { row := ticketAgainUptoRow, standIns := [], harness := (true, "5ecdc2060be6880689da8bfad47a27846b9e028025d82123d223eab1dd2d9491"), looks := true }, kinds := [], alts := [], laidByText := true, laidKinds := [.data, .data, .data, .data, .sentinel, .sentinel, .pinned], laidTests := true, laidLooks := .later }
def TicketAgainUptoCardSaid : Prop := Claim7.holds Tryz.pinned (.plain (OpenSpec.upto ticketAgainSpec)) ticketAgainUptoCard

/-- THE SECOND FORM's CARD OF 'gatherumlaw16.TicketOrder'. -/
def ticketOrderUptoCard : Claim7 := { stood := { row := ticketOrderUptoRow, standIns := [], harness := (true, "5ecdc2060be6880689da8bfad47a27846b9e028025d82123d223eab1dd2d9491"), looks := true }, kinds := [], alts := [], laidByText := true, laidKinds := [.data, .data, .data, .data, .sentinel, .sentinel, .pinned], laidTests := true, laidLooks := .later }
def TicketOrderUptoCardSaid : Prop := Claim7.holds Tryz.pinned (.plain (OpenSpec.upto ticketOrderSpec)) ticketOrderUptoCard
end Rows
end Go.Proofs.YtenigkjonegdmaaGreatDoor
