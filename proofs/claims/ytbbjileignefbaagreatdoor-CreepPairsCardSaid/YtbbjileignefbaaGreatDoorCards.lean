/-
  DERIVED. GIVEN WITH THE SEED: THE CARDS: each row of YtbbjileignefbaaGreatDoorRows.lean that lists a variable, with what it lists TIED to the program's text (the seventh form; the later family's looks); each row that meets fmt, with fmt's text TOLD by the authors' own Lean function (tested against real Go, not proved from fmt's source: count such statements apart). THE CARD IS WHAT COUNTS. Prove the row's statement (the work); the ties are given (YtbbjileignefbaaGreatDoorTie.lean); close each card by the builder's one call (the guide's Derived/Test/ToyasCard.lean, 'card_holds'). Laid BY PROGRAM, IN A SANDBOX (cutbox-door.mjs). By AI agents, Wed Nov 11 2026. No macro, syntax, notation, axiom, sorry.
-/
import Derived.Test.YtbbjileignefbaaGreatDoorRows
import GoSem.ClaimSeven
namespace Go.Proofs.YtbbjileignefbaaGreatDoor
namespace Rows

/-- THE TIED CARD OF 'gatherumlaw19.CreepTells'. -/
def creepTellsCard : Claim7 := { stood := { row := creepTellsRow, standIns := [], harness := (true, "d7fc3c45f4e4238ca3feaa2c3b652861938c68cd51e63af90fb68d5e99d6136d"), looks := true }, kinds := [], alts := [], laidByText := true, laidKinds := [.data, .data, .data, .data, .sentinel, .sentinel, .pinned], laidTests := true, laidLooks := .later }
def CreepTellsCardSaid : Prop := Claim7.holds Tryz.pinned (.plain (OpenSpec.ofChange creepTellsSpec)) creepTellsCard

/-- THE TIED CARD OF 'gatherumlaw19.CreepPairs'. -/
def creepPairsCard : Claim7 := { stood := { row := creepPairsRow, standIns := [], harness := (true, "d7fc3c45f4e4238ca3feaa2c3b652861938c68cd51e63af90fb68d5e99d6136d"), looks := true }, kinds := [], alts := [], laidByText := true, laidKinds := [.data, .data, .data, .data, .sentinel, .sentinel, .pinned], laidTests := true, laidLooks := .later }
def CreepPairsCardSaid : Prop := Claim7.holds Tryz.pinned (.plain (OpenSpec.ofChange creepPairsSpec)) creepPairsCard

/-- THE SECOND FORM's CARD OF 'gatherumlaw19.CreepTells'. -/
def creepTellsUptoCard : Claim7 := { stood := { row := creepTellsUptoRow, standIns := [], harness := (true, "d7fc3c45f4e4238ca3feaa2c3b652861938c68cd51e63af90fb68d5e99d6136d"), looks := true }, kinds := [], alts := [], laidByText := true, laidKinds := [.data, .data, .data, .data, .sentinel, .sentinel, .pinned], laidTests := true, laidLooks := .later }
def CreepTellsUptoCardSaid : Prop := Claim7.holds Tryz.pinned (.plain (OpenSpec.upto creepTellsSpec)) creepTellsUptoCard

/-- THE SECOND FORM's CARD OF 'gatherumlaw19.CreepPairs'. -/
def creepPairsUptoCard : Claim7 := { stood := { row := creepPairsUptoRow, standIns := [], harness := (true, "d7fc3c45f4e4238ca3feaa2c3b652861938c68cd51e63af90fb68d5e99d6136d"), looks := true }, kinds := [], alts := [], laidByText := true, laidKinds := [.data, .data, .data, .data, .sentinel, .sentinel, .pinned], laidTests := true, laidLooks := .later }
def CreepPairsUptoCardSaid : Prop := Claim7.holds Tryz.pinned (.plain (OpenSpec.upto creepPairsSpec)) creepPairsUptoCard
end Rows
end Go.Proofs.YtbbjileignefbaaGreatDoor
