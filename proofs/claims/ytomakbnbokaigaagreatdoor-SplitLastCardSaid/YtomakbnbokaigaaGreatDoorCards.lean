/-
  DERIVED. GIVEN WITH THE SEED: THE CARDS: each row of YtomakbnbokaigaaGreatDoorRows.lean that lists a variable, with what it lists TIED to the program's text (the seventh form; the later family's looks); each row that meets fmt, with fmt's text TOLD by the authors' own Lean function (tested against real Go, not proved from fmt's source: count such statements apart). THE CARD IS WHAT COUNTS. Prove the row's statement (the work); the ties are given (YtomakbnbokaigaaGreatDoorTie.lean); close each card by the builder's one call (the guide's Derived/Test/ToyasCard.lean, 'card_holds'). Laid BY PROGRAM, IN A SANDBOX (cutbox-door.mjs). By AI agents, Wed Nov 11 2026. No macro, syntax, notation, axiom, sorry.
-/
import Derived.Test.YtomakbnbokaigaaGreatDoorRows
import GoSem.ClaimSeven
namespace Go.Proofs.YtomakbnbokaigaaGreatDoor
namespace Rows

/-- THE TIED CARD OF 'gatherumlaw17.SplitTells'. -/
def splitTellsCard : Claim7 := { stood := { row := splitTellsRow, standIns := [], harness := (true, "74e7381784273e75f882d4eab58ebfd808f6f8fb1cc264ed5ce8202565e923d7"), looks := true }, kinds := [], alts := [], laidByText := true, laidKinds := [.data, .data, .data, .data, .sentinel, .sentinel, .pinned], laidTests := true, laidLooks := .later }
def SplitTellsCardSaid : Prop := Claim7.holds Tryz.pinned (.plain (OpenSpec.ofChange splitTellsSpec)) splitTellsCard

/-- THE TIED CARD OF 'gatherumlaw17.SplitBlanks'. -/
def splitBlanksCard : Claim7 := { stood := { row := splitBlanksRow, standIns := [], harness := (true, "74e7381784273e75f882d4eab58ebfd808f6f8fb1cc264ed5ce8202565e923d7"), looks := true }, kinds := [], alts := [], laidByText := true, laidKinds := [.data, .data, .data, .data, .sentinel, .sentinel, .pinned], laidTests := true, laidLooks := .later }
def SplitBlanksCardSaid : Prop := Claim7.holds Tryz.pinned (.plain (OpenSpec.ofChange splitBlanksSpec)) splitBlanksCard

/-- THE TIED CARD OF 'gatherumlaw17.SplitLast'. -/
def splitLastCard : Claim7 := { stood := { row := splitLastRow, standIns := [], harness := (true, "74e7381784273e75f882d4eab58ebfd808f6f8fb1cc264ed5ce8202565e923d7"), looks := true }, kinds := [], alts := [], laidByText := true, laidKinds := [.data, .data, .data, .data, .sentinel, .sentinel, .pinned], laidTests := true, laidLooks := .later }
def SplitLastCardSaid : Prop := Claim7.holds Tryz.pinned (.plain (OpenSpec.ofChange splitLastSpec)) splitLastCard

/-- THE SECOND FORM's CARD OF 'gatherumlaw17.SplitTells'. -/
def splitTellsUptoCard : Claim7 := { stood := { row := splitTellsUptoRow, standIns := [], harness := (true, "74e7381784273e75f882d4eab58ebfd808f6f8fb1cc264ed5ce8202565e923d7"), looks := true }, kinds := [], alts := [], laidByText := true, laidKinds := [.data, .data, .data, .data, .sentinel, .sentinel, .pinned], laidTests := true, laidLooks := .later }
def SplitTellsUptoCardSaid : Prop := Claim7.holds Tryz.pinned (.plain (OpenSpec.upto splitTellsSpec)) splitTellsUptoCard

/-- THE SECOND FORM's CARD OF 'gatherumlaw17.SplitBlanks'. -/
def splitBlanksUptoCard : Claim7 := { stood := { row := splitBlanksUptoRow, standIns := [], harness := (true, "74e7381784273e75f882d4eab58ebfd808f6f8fb1cc264ed5ce8202565e923d7"), looks := true }, kinds := [], alts := [], laidByText := true, laidKinds := [.data, .data, .data, .data, .sentinel, .sentinel, .pinned], laidTests := true, laidLooks := .later }
def SplitBlanksUptoCardSaid : Prop := Claim7.holds Tryz.pinned (.plain (OpenSpec.upto splitBlanksSpec)) splitBlanksUptoCard

/-- THE SECOND FORM's CARD OF 'gatherumlaw17.SplitLast'. -/
def splitLastUptoCard : Claim7 := { stood := { row := splitLastUptoRow, standIns := [], harness := (true, "74e7381784273e75f882d4eab58ebfd808f6f8fb1cc264ed5ce8202565e923d7"), looks := true }, kinds := [], alts := [], laidByText := true, laidKinds := [.data, .data, .data, .data, .sentinel, .sentinel, .pinned], laidTests := true, laidLooks := .later }
def SplitLastUptoCardSaid : Prop := Claim7.holds Tryz.pinned (.plain (OpenSpec.upto splitLastSpec)) splitLastUptoCard
end Rows
end Go.Proofs.YtomakbnbokaigaaGreatDoor
