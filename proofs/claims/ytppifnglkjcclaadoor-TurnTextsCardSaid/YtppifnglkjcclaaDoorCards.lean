/-
  DERIVED. GIVEN WITH THE SEED: THE CARDS: each row of YtppifnglkjcclaaDoorRows.lean that lists a variable, with what it lists TIED to the program's text (the seventh form; the later family's looks); each row that meets fmt, with fmt's text TOLD by the authors' own Lean function (tested against real Go, not proved from fmt's source: count such statements apart). THE CARD IS WHAT COUNTS. Prove the row's statement (the work); the ties are given (YtppifnglkjcclaaDoorTie.lean); close each card by the builder's one call (the guide's Derived/Test/ToyasCard.lean, 'card_holds'). Laid BY PROGRAM, IN A SANDBOX (cutbox-door.mjs). By AI agents, Wed Nov 11 2026. No macro, syntax, notation, axiom, sorry.
-/
import Derived.Test.YtppifnglkjcclaaDoorRows
import GoSem.ClaimSeven
namespace Go.Proofs.YtppifnglkjcclaaDoor
namespace Rows

/-- THE TIED CARD OF 'gatherumlaw05.TurnDoes'. -/
def turnDoesCard : Claim7 := { stood := { row := turnDoesRow, standIns := [], harness := (true, "3242f009c2469b9aca9628544f2d641d8259999161c0a04724fd32f33fd73f26"), looks := false }, kinds := [], alts := [], laidByText := true, laidKinds := [.data, .data, .data], laidTests := true, laidLooks := .later }
def TurnDoesCardSaid : Prop := Claim7.holds Tryd.pinned (.plain (OpenSpec.ofChange turnDoesSpec)) turnDoesCard

/-- THE TIED CARD OF 'gatherumlaw05.TurnGroup'. -/
def turnGroupCard : Claim7 := { stood := { row := turnGroupRow, standIns := [], harness := (true, "3242f009c2469b9aca9628544f2d641d8259999161c0a04724fd32f33fd73f26"), looks := false }, kinds := [], alts := [], laidByText := true, laidKinds := [.data, .data, .data], laidTests := true, laidLooks := .later }
def TurnGroupCardSaid : Prop := Claim7.holds Tryd.pinned (.plain (OpenSpec.ofChange turnGroupSpec)) turnGroupCard

/-- THE TIED CARD OF 'gatherumlaw05.TurnTexts'. -/
def turnTextsCard : Claim7 := { stood := { row := turnTextsRow, standIns := [], harness := (true, "3242f009c2469b9aca9628544f2d641d8259999161c0a04724fd32f33fd73f26"), looks := false }, kinds := [], alts := [], laidByText := true, laidKinds := [.data, .data, .data], laidTests := true, laidLooks := .later }
def TurnTextsCardSaid : Prop := Claim7.holds Tryd.pinned (.plain (OpenSpec.ofChange turnTextsSpec)) turnTextsCard

/-- THE SECOND FORM's CARD OF 'gatherumlaw05.TurnDoes'. -/
def turnDoesUptoCard : Claim7 := { stood := { row := turnDoesUptoRow, standIns := [], harness := (true, "3242f009c2469b9aca9628544f2d641d8259999161c0a04724fd32f33fd73f26"), looks := false }, kinds := [], alts := [], laidByText := true, laidKinds := [.data, .data, .data], laidTests := true, laidLooks := .later }
def TurnDoesUptoCardSaid : Prop := Claim7.holds Tryd.pinned (.plain (OpenSpec.upto turnDoesSpec)) turnDoesUptoCard

/-- THE SECOND FORM's CARD OF 'gatherumlaw05.TurnGroup'. -/
def turnGroupUptoCard : Claim7 := { stood := { row := turnGroupUptoRow, standIns := [], harness := (true, "3242f009c2469b9aca9628544f2d641d8259999161c0a04724fd32f33fd73f26"), looks := false }, kinds := [], alts := [], laidByText := true, laidKinds := [.data, .data, .data], laidTests := true, laidLooks := .later }
def TurnGroupUptoCardSaid : Prop := Claim7.holds Tryd.pinned (.plain (OpenSpec.upto turnGroupSpec)) turnGroupUptoCard

/-- THE SECOND FORM's CARD OF 'gatherumlaw05.TurnTexts'. -/
def turnTextsUptoCard : Claim7 := { stood := { row := turnTextsUptoRow, standIns := [], harness := (true, "3242f009c2469b9aca9628544f2d641d8259999161c0a04724fd32f33fd73f26"), looks := false }, kinds := [], alts := [], laidByText := true, laidKinds := [.data, .data, .data], laidTests := true, laidLooks := .later }
def TurnTextsUptoCardSaid : Prop := Claim7.holds Tryd.pinned (.plain (OpenSpec.upto turnTextsSpec)) turnTextsUptoCard
end Rows
end Go.Proofs.YtppifnglkjcclaaDoor
