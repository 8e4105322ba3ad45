/-
  DERIVED. GIVEN WITH THE SEED: THE CARDS: each row of YteehfhfdcemgoaaDoorRows.lean that lists a variable, with what it lists TIED to the program's text (the seventh form; the later family's looks); each row that meets fmt, with fmt's text TOLD by the authors' own Lean function (tested against real Go, not proved from fmt's source: count such statements apart). THE CARD IS WHAT COUNTS. Prove the row's statement (the work); the ties are given (YteehfhfdcemgoaaDoorTie.lean); close each card by the builder's one call (the guide's Derived/Test/ToyasCard.lean, 'card_holds'). Laid BY PROGRAM, IN A SANDBOX (cutbox-door.mjs). By AI agents, Wed Nov 11 2026. No macro, syntax, notation, axiom, sorry.
-/
import Derived.Test.YteehfhfdcemgoaaDoorRows
import GoSem.ClaimSeven
namespace Go.Proofs.YteehfhfdcemgoaaDoor
namespace Rows

/-- THE TIED CARD OF 'gatherumlaw11.StepBack'. -/
def stepBackCard : Claim7 := { stood := { row := stepBackRow, standIns := [], harness := (true, "cc38c248f49ab61044e0ec9046fea94a9f09c89c5870ab7eda069a22ee59d697"), looks := true }, kinds := [], alts := [], laidByText := true, laidKinds := [.data, .data, .data, .sentinel, .sentinel], laidTests := true, laidLooks := .later }
def StepBackCardSaid : Prop := Claim7.holds Tryd.pinned (.plain (OpenSpec.ofChange stepBackSpec)) stepBackCard

/-- THE TIED CARD OF 'gatherumlaw11.StepFolds'. -/
def stepFoldsCard : Claim7 := { stood := { row := stepFoldsRow, standIns := [], harness := (true, "cc38c248f49ab61044e0ec9046fea94a9f09c89c5870ab7eda069a22ee59d697"), looks := true }, kinds := [], alts := [], laidByText := true, laidKinds := [.data, .data, .data], laidTests := true, laidLooks := .later }
def StepFoldsCardSaid : Prop := Claim7.holds Tryd.pinned (.plain (OpenSpec.ofChange stepFoldsSpec)) stepFoldsCard

/-- THE TIED CARD OF 'gatherumlaw11.StepOne'. -/
def stepOneCard : Claim7 := { stood := { row := stepOneRow, standIns := [], harness := (true, "cc38c248f49ab61044e0ec9046fea94a9f09c89c5870ab7eda069a22ee59d697"), looks := true }, kinds := [], alts := [], laidByText := true, laidKinds := [.data, .data, .data], laidTests := true, laidLooks := .later }
def StepOneCardSaid : Prop := Claim7.holds Tryd.pinned (.plain (OpenSpec.ofChange stepOneSpec)) stepOneCard

/-- THE SECOND FORM's CARD OF 'gatherumlaw11.StepBack'. -/
def stepBackUptoCard : Claim7 := { stood := { row := stepBackUptoRow, standIns := [], harness := (true, "cc38c248f49ab61044e0ec9046fea94a9f09c89c5870ab7eda069a22ee59d697"), looks := true }, kinds := [], alts := [], laidByText := true, laidKinds := [.data, .data, .data, .sentinel, .sentinel], laidTests := true, laidLooks := .later }
def StepBackUptoCardSaid : Prop := Claim7.holds Tryd.pinned (.plain (OpenSpec.upto stepBackSpec)) stepBackUptoCard

/-- THE SECOND FORM's CARD OF 'gatherumlaw11.StepFolds'. -/
def stepFoldsUptoCard : Claim7 := { stood := { row := stepFoldsUptoRow, standIns := [], harness := (true, "cc38c248f49ab61044e0ec9046fea94a9f09c89c5870ab7eda069a22ee59d697"), looks := true }, kinds := [], alts := [], laidByText := true, laidKinds := [.data, .data, .data], laidTests := true, laidLooks := .later }
def StepFoldsUptoCardSaid : Prop := Claim7.holds Tryd.pinned (.plain (OpenSpec.upto stepFoldsSpec)) stepFoldsUptoCard

/-- THE SECOND FORM's CARD OF 'gatherumlaw11.StepOne'. -/
def stepOneUptoCard : Claim7 := { stood := { row := stepOneUptoRow, standIns := [], harness := (true, "cc38c248f49ab61044e0ec9046fea94a9f09c89c5870ab7eda069a22ee59d697"), looks := true }, kinds := [], alts := [], laidByText := true, laidKinds := [.data, .data, .data], laidTests := true, laidLooks := .later }
def StepOneUptoCardSaid : Prop := Claim7.holds Tryd.pinned (.plain (OpenSpec.upto stepOneSpec)) stepOneUptoCard
end Rows
end Go.Proofs.YteehfhfdcemgoaaDoor
