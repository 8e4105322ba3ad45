/-
  DERIVED. GIVEN WITH THE SEED: THE CARDS: each row of YtcjnhgafifkfeaaDoorRows.lean that lists a variable, with what it lists TIED to the program's text (the seventh form; the later family's looks); each row that meets fmt, with fmt's text TOLD by the authors' own Lean function (tested against real Go, not proved from fmt's source: count such statements apart). THE CARD IS WHAT COUNTS. Prove the row's statement (the work); the ties are given (YtcjnhgafifkfeaaDoorTie.lean); close each card by the builder's one call (the guide's Derived/Test/ToyasCard.lean, 'card_holds'). Laid BY PROGRAM, IN A SANDBOX (cutbox-door.mjs). By AI agents, Wed Nov 11 2026. No macro, syntax, notation, axiom, sorry.
-/
import Derived.Test.YtcjnhgafifkfeaaDoorRows
import GoSem.ClaimSeven
namespace Go.Proofs.YtcjnhgafifkfeaaDoor
namespace Rows

/-- THE TIED CARD OF 'gatherumlaw15.BoundsTell'. -/
def boundsTellCard : Claim7 := { stood := { row := boundsTellRow, standIns := [], harness := (true, "e008fbdc1c684c9ea465b29b2449da7ab482333efdb41aa160df1de3b66a88ff"), looks := true }, kinds := [], alts := [], laidByText := true, laidKinds := [.data, .data, .data, .data, .sentinel, .sentinel, .pinned], laidTests := true, laidLooks := .later }
def BoundsTellCardSaid : Prop := Claim7.holds Tryd.pinned (.plain (OpenSpec.ofChange boundsTellSpec)) boundsTellCard

/-- THE TIED CARD OF 'gatherumlaw15.BoundsSet'. -/
def boundsSetCard : Claim7 := { stood := { row := boundsSetRow, standIns := [], harness := (true, "e008fbdc1c684c9ea465b29b2449da7ab482333efdb41aa160df1de3b66a88ff"), looks := true }, kinds := [], alts := [], laidByText := true, laidKinds := [.data, .data, .data, .data, .sentinel, .sentinel, .pinned], laidTests := true, laidLooks := .later }
def BoundsSetCardSaid : Prop := Claim7.holds Tryd.pinned (.plain (OpenSpec.ofChange boundsSetSpec)) boundsSetCard

/-- THE TIED CARD OF 'gatherumlaw15.BoundsEdges'. -/
def boundsEdgesCard : Claim7 := { stood := { row := boundsEdgesRow, standIns := [], harness := (true, "e008fbdc1c684c9ea465b29b2449da7ab482333efdb41aa160df1de3b66a88ff"), looks := true }, kinds := [], alts := [], laidByText := true, laidKinds := [.data, .data, .data, .data, .sentinel, .sentinel, .pinned], laidTests := true, laidLooks := .later }
def BoundsEdgesCardSaid : Prop := Claim7.holds Tryd.pinned (.plain (OpenSpec.ofChange boundsEdgesSpec)) boundsEdgesCard

/-- THE SECOND FORM's CARD OF 'gatherumlaw15.BoundsTell'. -/
def boundsTellUptoCard : Claim7 := { stood := { row := boundsTellUptoRow, standIns := [], harness := (true, "e008fbdc1c684c9ea465b29b2449da7ab482333efdb41aa160df1de3b66a88ff"), looks := true }, kinds := [], alts := [], laidByText := true, laidKinds := [.data, .data, .data, .data, .sentinel, .sentinel, .pinned], laidTests := true, laidLooks := .later }
def BoundsTellUptoCardSaid : Prop := Claim7.holds Tryd.pinned (.plain (OpenSpec.upto boundsTellSpec)) boundsTellUptoCard

/-- THE SECOND FORM's CARD OF 'gatherumlaw15.BoundsSet'. -/
def boundsSetUptoCard : Claim7 := { stood := { row := boundsSetUptoRow, standIns := [], harness := (true, "e008fbdc1c684c9ea465b29b2449da7ab482333efdb41aa160df1de3b66a88ff"), looks := true }, kinds := [], alts := [], laidByText := true, laidKinds := [.data, .data, .data, .data, .sentinel, .sentinel, .pinned], laidTests := true, laidLooks := .later }
def BoundsSetUptoCardSaid : Prop := Claim7.holds Tryd.pinned (.plain (OpenSpec.upto boundsSetSpec)) boundsSetUptoCard

/-- THE SECOND FORM's CARD OF 'gatherumlaw15.BoundsEdges'. -/
def boundsEdgesUptoCard : Claim7 := { stood := { row := boundsEdgesUptoRow, standIns := [], harness := (true, "e008fbdc1c684c9ea465b29b2449da7ab482333efdb41aa160df1de3b66a88ff"), looks := true }, kinds := [], alts := [], laidByText := true, laidKinds := [.data, .data, .data, .data, .sentinel, .sentinel, .pinned], laidTests := true, laidLooks := .later }
def BoundsEdgesUptoCardSaid : Prop := Claim7.holds Tryd.pinned (.plain (OpenSpec.upto boundsEdgesSpec)) boundsEdgesUptoCard
end Rows
end Go.Proofs.YtcjnhgafifkfeaaDoor
