/-
  No cell of these rows narrows 'for every input' (looked for: loops, veiled, ifaces, maps, wideKeys, modest, calm, conditions, laid).
  DERIVED. THE GIVEN ROWS OF THIS SEAT. 3 by the template 'for every input the law returns true; each argument reads behind the call as it read before'; 0 by the template 'total and deterministic' (their statements: YthdemhahgjpdmaaTotals.lean).
  GIVEN WITH THE SEED: the statements are not yours to turn. If you find one false, say at which input.
  Laid BY PROGRAM, IN A SANDBOX (cutbox-rows.mjs): the forced cells as the released guide's own fill.sh prints them over the translation f642511647ce808a… (all of the seat's roots in one cut). By AI agents, Wed Nov 11 2026. No macro, syntax, notation, axiom, sorry.
-/
import Derived.Test.YthdemhahgjpdmaaChecked
import GoSem.Claim
import GoSem.ClaimJoined
import GoSem.ClaimMapViews
import Derived.JoinedTies
import Derived.KernelRfl
namespace Go.Proofs.Ythdemhahgjpdmaa
/- THE CELL 'sum', in the pinned program and in every row, IS THE sha256 OF THE DUMP (.gsa) THAT YthdemhahgjpdmaaProg.lean LOADS. Nothing in Lean hashes anything: it is a label: what it is worth is what the hold of that sum in a sandbox is worth. -/
noncomputable def Try.pinned : Pinned := { name := "ythdemhahgjpdmaa", sum := "f642511647ce808a8bb44f3e5dfd5bd20863d9fb79b62199252377d5386a7d7e", checked := Try.checked }
namespace Rows
def none {H : Type} : Left H := { results := [], args := [] }

/-- 'gatherumlaw06.PlaceDoes': WHATEVER THE INPUT: true; the input reads as it did. -/
def placeDoesSpec : ChangeSpec := { name := "placeDoes", fn := fun _ => fun
  | [d1, d2, d3, d4] => { results := [.lit (.bool true)], args := [d1, d2, d3, d4] }
  | _ => none }
def placeDoesRow : OpenClaim := { program := "ythdemhahgjpdmaa", sum := "f642511647ce808a8bb44f3e5dfd5bd20863d9fb79b62199252377d5386a7d7e", func := "gatherum/gatherumlaw06.PlaceDoes", spec := "placeDoes", apart := false }
def PlaceDoesSaid : Prop := placeDoesRow.holds Try.pinned (OpenSpec.ofChange placeDoesSpec)

/-- ITS FALSE NEIGHBOUR: 'it returns false'. Refute it at one input. -/
def placeDoesWrong : ChangeSpec := { name := "placeDoes", fn := fun _ => fun
  | [d1, d2, d3, d4] => { results := [.lit (.bool false)], args := [d1, d2, d3, d4] }
  | _ => none }
def PlaceDoesWrongFalsely : Prop := placeDoesRow.holds Try.pinned (OpenSpec.ofChange placeDoesWrong)

/-- 'gatherumlaw06.PlaceGroup': WHATEVER THE INPUT: true; the input reads as it did. -/
def placeGroupSpec : ChangeSpec := { name := "placeGroup", fn := fun _ => fun
  | [d1, d2, d3] => { results := [.lit (.bool true)], args := [d1, d2, d3] }
  | _ => none }
def placeGroupRow : OpenClaim := { program := "ythdemhahgjpdmaa", sum := "f642511647ce808a8bb44f3e5dfd5bd20863d9fb79b62199252377d5386a7d7e", func := "gatherum/gatherumlaw06.PlaceGroup", spec := "placeGroup", apart := false }
def PlaceGroupSaid : Prop := placeGroupRow.holds Try.pinned (OpenSpec.ofChange placeGroupSpec)

/-- ITS FALSE NEIGHBOUR: 'it returns false'. Refute it at one input. -/
def placeGroupWrong : ChangeSpec := { name := "placeGroup", fn := fun _ => fun
  | [d1, d2, d3] => { results := [.lit (.bool false)], args := [d1, d2, d3] }
  | _ => none }
def PlaceGroupWrongFalsely : Prop := placeGroupRow.holds Try.pinned (OpenSpec.ofChange placeGroupWrong)

/-- 'gatherumlaw06.PlaceMatrix': WHATEVER THE INPUT: true; the input reads as it did. -/
def placeMatrixSpec : ChangeSpec := { name := "placeMatrix", fn := fun _ => fun
  | [d1, d2, d3] => { results := [.lit (.bool true)], args := [d1, d2, d3] }
  | _ => none }
def placeMatrixRow : OpenClaim := { program := "ythdemhahgjpdmaa", sum := "f642511647ce808a8bb44f3e5dfd5bd20863d9fb79b62199252377d5386a7d7e", func := "gatherum/gatherumlaw06.PlaceMatrix", spec := "placeMatrix", apart := false }
def PlaceMatrixSaid : Prop := placeMatrixRow.holds Try.pinned (OpenSpec.ofChange placeMatrixSpec)

/-- ITS FALSE NEIGHBOUR: 'it returns false'. Refute it at one input. -/
def placeMatrixWrong : ChangeSpec := { name := "placeMatrix", fn := fun _ => fun
  | [d1, d2, d3] => { results := [.lit (.bool false)], args := [d1, d2, d3] }
  | _ => none }
def PlaceMatrixWrongFalsely : Prop := placeMatrixRow.holds Try.pinned (OpenSpec.ofChange placeMatrixWrong)

/- THE SECOND FORM. 'bulk': how many values and letters a reading holds, each counted each time it is reached (what is shared counts as often as it is met; a slice's spare places count too). A statement '..UptoSaid' is the law's where the arguments, and the package variables that the reading takes, are together of bulk at most 1048576: NARROWER than '..Said'. Prove '..Said' where nothing that the law and all that it calls make is longer than what came in: it says more and counts as full. Else prove '..UptoSaid'. A law counts once. -/
mutual
def uptoBulk {H : Type} : DataW H → Nat
  | .lit (.string bytes) => bytes.length + 1
  | .lit _ => 1
  | .nil => 1
  | .ptr d => uptoBulk d + 1
  | .slice elems spare => uptoBulkAll elems + uptoBulkAll spare + 1
  | .agg parts => uptoBulkAll parts + 1
  | .iface _ d => uptoBulk d + 1
  | .map entries => uptoBulkEntries entries + 1
  | .held _ => 1
def uptoBulkAll {H : Type} : List (DataW H) → Nat
  | [] => 0
  | d :: r => uptoBulk d + uptoBulkAll r
def uptoBulkEntries {H : Type} : List (Lit × DataW H) → Nat
  | [] => 0
  | x :: r => uptoBulkEntry x + uptoBulkEntries r
def uptoBulkEntry {H : Type} : Lit × DataW H → Nat
  | (.string bytes, d) => bytes.length + uptoBulk d + 1
  | (_, d) => uptoBulk d + 1
 end
def uptoSmall : (H : Type) → List (DataW H) → Bool := fun _ ds => decide (uptoBulkAll ds ≤ 1048576)
def OpenSpec.upto (s : _root_.Go.ChangeSpec) : _root_.Go.OpenSpec := { _root_.Go.OpenSpec.ofChange s with cond := some uptoSmall }

/-- 'gatherumlaw06.PlaceDoes', WHERE WHAT IT READS IS OF BULK AT MOST 1048576: true; the input reads as it did. -/
def placeDoesUptoRow : OpenClaim := { program := "ythdemhahgjpdmaa", sum := "f642511647ce808a8bb44f3e5dfd5bd20863d9fb79b62199252377d5386a7d7e", func := "gatherum/gatherumlaw06.PlaceDoes", spec := "placeDoes", apart := false, narrowed := true }
def PlaceDoesUptoSaid : Prop := placeDoesUptoRow.holds Try.pinned (OpenSpec.upto placeDoesSpec)

/-- 'gatherumlaw06.PlaceGroup', WHERE WHAT IT READS IS OF BULK AT MOST 1048576: true; the input reads as it did. -/
def placeGroupUptoRow : OpenClaim := { program := "ythdemhahgjpdmaa", sum := "f642511647ce808a8bb44f3e5dfd5bd20863d9fb79b62199252377d5386a7d7e", func := "gatherum/gatherumlaw06.PlaceGroup", spec := "placeGroup", apart := false, narrowed := true }
def PlaceGroupUptoSaid : Prop := placeGroupUptoRow.holds Try.pinned (OpenSpec.upto placeGroupSpec)

/-- 'gatherumlaw06.PlaceMatrix', WHERE WHAT IT READS IS OF BULK AT MOST 1048576: true; the input reads as it did. -/
def placeMatrixUptoRow : OpenClaim := { program := "ythdemhahgjpdmaa", sum := "f642511647ce808a8bb44f3e5dfd5bd20863d9fb79b62199252377d5386a7d7e", func := "gatherum/gatherumlaw06.PlaceMatrix", spec := "placeMatrix", apart := false, narrowed := true }
def PlaceMatrixUptoSaid : Prop := placeMatrixUptoRow.holds Try.pinned (OpenSpec.upto placeMatrixSpec)

end Rows
end Go.Proofs.Ythdemhahgjpdmaa
