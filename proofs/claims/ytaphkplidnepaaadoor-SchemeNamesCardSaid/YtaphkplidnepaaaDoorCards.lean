/-
  DERIVED. GIVEN WITH THE SEED: THE CARDS: each row of YtaphkplidnepaaaDoorRows.lean that lists a variable, with what it lists TIED to the program's text (the seventh form; the later family's looks); each row that meets fmt, with fmt's text TOLD by the authors' own Lean function (tested against real Go, not proved from fmt's source: count such statements apart). THE CARD IS WHAT COUNTS. Prove the row's statement (the work); the ties are given (YtaphkplidnepaaaDoorTie.lean); close each card by the builder's one call (the guide's Derived/Test/ToyasCard.lean, 'card_holds'). Laid BY PROGRAM, IN A SANDBOX (cutbox-door.mjs). By AI agents, Wed Nov 11 2026. No macro, syntax, notation, axiom, sorry.
-/
import Derived.Test.YtaphkplidnepaaaDoorRows
import GoSem.ClaimSeven
namespace Go.Proofs.YtaphkplidnepaaaDoor
namespace Rows

/-- THE TIED CARD OF 'gatherumlaw12.SchemeRight'. -/
def schemeRightCard : Claim7 := { stood := { row := schemeRightRow, standIns := [], harness := (true, "460ea7c0bcd6cd675c6ddef7e4df8ff09ab39e2c48657bafbbb4360fd466bc05"), looks := true }, kinds := [], alts := [], laidByText := true, laidKinds := [.data, .data, .data, .data, .sentinel, .sentinel, .pinned], laidTests := true, laidLooks := .later }
def SchemeRightCardSaid : Prop := Claim7.holds Tryd.pinned (.plain (OpenSpec.ofChange schemeRightSpec)) schemeRightCard

/-- THE TIED CARD OF 'gatherumlaw12.SchemeSame'. -/
def schemeSameCard : Claim7 := { stood := { row := schemeSameRow, standIns := [], harness := (true, "460ea7c0bcd6cd675c6ddef7e4df8ff09ab39e2c48657bafbbb4360fd466bc05"), looks := true }, kinds := [], alts := [], laidByText := true, laidKinds := [.data, .data, .data, .data, .sentinel, .sentinel, .pinned], laidTests := true, laidLooks := .later }
def SchemeSameCardSaid : Prop := Claim7.holds Tryd.pinned (.plain (OpenSpec.ofChange schemeSameSpec)) schemeSameCard

/-- THE TIED CARD OF 'gatherumlaw12.SchemeNames'. -/
def schemeNamesCard : Claim7 := { stood := { row := schemeNamesRow, standIns := [], harness := (true, "460ea7c0bcd6cd675c6ddef7e4df8ff09ab39e2c48657bafbbb4360fd466bc05"), looks := true }, kinds := [], alts := [], laidByText := true, laidKinds := [.data, .data, .data, .data, .sentinel, .sentinel, .pinned], laidTests := true, laidLooks := .later }
def SchemeNamesCardSaid : Prop := Claim7.holds Tryd.pinned (.plain (OpenSpec.ofChange schemeNamesSpec)) schemeNamesCard

/-- THE TIED CARD OF 'gatherumlaw12.SchemeBack'. -/
def schemeBackCard : Claim7 := { stood := { row := schemeBackRow, standIns := [], harness := (true, "460ea7c0bcd6cd675c6ddef7e4df8ff09ab39e2c48657bafbbb4360fd466bc05"), looks := true }, kinds := [], alts := [], laidByText := true, laidKinds := [.data, .data, .data, .data, .sentinel, .sentinel, .pinned], laidTests := true, laidLooks := .later }
def SchemeBackCardSaid : Prop := Claim7.holds Tryd.pinned (.plain (OpenSpec.ofChange schemeBackSpec)) schemeBackCard

/-- THE SECOND FORM's CARD OF 'gatherumlaw12.SchemeRight'. -/
def schemeRightUptoCard : Claim7 := { stood := { row := schemeRightUptoRow, standIns := [], harness := (true, "460ea7c0bcd6cd675c6ddef7e4df8ff09ab39e2c48657bafbbb4360fd466bc05"), looks := true }, kinds := [], alts := [], laidByText := true, laidKinds := [.data, .data, .data, .data, .sentinel, .sentinel, .pinned], laidTests := true, laidLooks := .later }
def SchemeRightUptoCardSaid : Prop := Claim7.holds Tryd.pinned (.plain (OpenSpec.upto schemeRightSpec)) schemeRightUptoCard

/-- THE SECOND FORM's CARD OF 'gatherumlaw12.SchemeSame'. -/
def schemeSameUptoCard : Claim7 := { stood := { row := schemeSameUptoRow, standIns := [], harness := (true, "460ea7c0bcd6cd675c6ddef7e4df8ff09ab39e2c48657bafbbb4360fd466bc05"), looks := true }, kinds := [], alts := [], laidByText := true, laidKinds := [.data, .data, .data, .data, .sentinel, .sentinel, .pinned], laidTests := true, laidLooks := .later }
def SchemeSameUptoCardSaid : Prop := Claim7.holds Tryd.pinned (.plain (OpenSpec.upto schemeSameSpec)) schemeSameUptoCard

/-- THE SECOND FORM's CARD OF 'gatherumlaw12.SchemeNames'. -/
def schemeNamesUptoCard : Claim7 := { stood := { row := schemeNamesUptoRow, standIns := [], harness := (true, "460ea7c0bcd6cd675c6ddef7e4df8ff09ab39e2c48657bafbbb4360fd466bc05"), looks := true }, kinds := [], alts := [], laidByText := true, laidKinds := [.data, .data, .data, .data, .sentinel, .sentinel, .pinned], laidTests := true, laidLooks := .later }
def SchemeNamesUptoCardSaid : Prop := Claim7.holds Tryd.pinned (.plain (OpenSpec.upto schemeNamesSpec)) schemeNamesUptoCard

/-- THE SECOND FORM's CARD OF 'gatherumlaw12.SchemeBack'. -/
def schemeBackUptoCard : Claim7 := { stood := { row := schemeBackUptoRow, standIns := [], harness := (true, "460ea7c0bcd6cd675c6ddef7e4df8ff09ab39e2c48657bafbbb4360fd466bc05"), looks := true }, kinds := [], alts := [], laidByText := true, laidKinds := [.data, .data, .data, .data, .sentinel, .sentinel, .pinned], laidTests := true, laidLooks := .later }
def SchemeBackUptoCardSaid : Prop := Claim7.holds Tryd.pinned (.plain (OpenSpec.upto schemeBackSpec)) schemeBackUptoCard
end Rows
end Go.Proofs.YtaphkplidnepaaaDoor
