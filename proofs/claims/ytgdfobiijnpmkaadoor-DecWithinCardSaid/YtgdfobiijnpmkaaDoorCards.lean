/-
  DERIVED. GIVEN WITH THE SEED: THE CARDS: each row of YtgdfobiijnpmkaaDoorRows.lean that lists a variable, with what it lists TIED to the program's text (the seventh form; the later family's looks); each row that meets fmt, with fmt's text TOLD by the authors' own Lean function (tested against real Go, not proved from fmt's source: count such statements apart). THE CARD IS WHAT COUNTS. Prove the row's statement (the work); the ties are given (YtgdfobiijnpmkaaDoorTie.lean); close each card by the builder's one call (the guide's Derived/Test/ToyasCard.lean, 'card_holds'). Laid BY PROGRAM, IN A SANDBOX (cutbox-door.mjs). By AI agents, Wed Nov 11 2026. No macro, syntax, notation, axiom, sorry.
-/
import Derived.Test.YtgdfobiijnpmkaaDoorRows
import GoSem.ClaimSeven
namespace Go.Proofs.YtgdfobiijnpmkaaDoor
namespace Rows

/-- THE TIED CARD OF 'gatherumlaw02.DecBack'. -/
def decBackCard : Claim7 := { stood := { row := decBackRow, standIns := [], harness := (true, "8a81086e82f7fad1505755df104ec5a96fe5c941dee3d05d69769547e7e48f2e"), looks := true }, kinds := [], alts := [], laidByText := true, laidKinds := [.data, .data, .data, .sentinel, .sentinel], laidTests := true, laidLooks := .later }
def DecBackCardSaid : Prop := Claim7.holds Tryd.pinned (.plain (OpenSpec.ofChange decBackSpec)) decBackCard

/-- THE TIED CARD OF 'gatherumlaw02.DecWithin'. -/
def decWithinCard : Claim7 := { stood := { row := decWithinRow, standIns := [], harness := (true, "8a81086e82f7fad1505755df104ec5a96fe5c941dee3d05d69769547e7e48f2e"), looks := true }, kinds := [], alts := [], laidByText := true, laidKinds := [.data, .data, .data, .sentinel, .sentinel], laidTests := true, laidLooks := .later }
def DecWithinCardSaid : Prop := Claim7.holds Tryd.pinned (.plain (OpenSpec.ofChange decWithinSpec)) decWithinCard

/-- THE SECOND FORM's CARD OF 'gatherumlaw02.DecBack'. -/
def decBackUptoCard : Claim7 := { stood := { row := decBackUptoRow, standIns := [], harness := (true, "8a81086e82f7fad1505755df104ec5a96fe5c941dee3d05d69769547e7e48f2e"), looks := true }, kinds := [], alts := [], laidByText := true, laidKinds := [.data, .data, .data, .sentinel, .sentinel], laidTests := true, laidLooks := .later }
def DecBackUptoCardSaid : Prop := Claim7.holds Tryd.pinned (.plain (OpenSpec.upto decBackSpec)) decBackUptoCard

/-- THE SECOND FORM's CARD OF 'gatherumlaw02.DecWithin'. -/
def decWithinUptoCard : Claim7 := { stood := { row := decWithinUptoRow, standIns := [], harness := (true, "8a81086e82f7fad1505755df104ec5a96fe5c941dee3d05d69769547e7e48f2e"), looks := true }, kinds := [], alts := [], laidByText := true, laidKinds := [.data, .data, .data, .sentinel, .sentinel], laidTests := true, laidLooks := .later }
def DecWithinUptoCardSaid : Prop := Claim7.holds Tryd.pinned (.plain (OpenSpec.upto decWithinSpec)) decWithinUptoCard
end Rows
end Go.Proofs.YtgdfobiijnpmkaaDoor
