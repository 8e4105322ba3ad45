/-
  No cell of these rows narrows 'for every input' (looked for: loops, veiled, ifaces, maps, wideKeys, modest, calm, conditions, laid).
  DERIVED. THE GIVEN ROWS OF THIS SEAT. 3 by the template 'for every input the law returns true; each argument reads behind the call as it read before'; 0 by the template 'total and deterministic' (their statements: YtnmmmedflmdpbaaTotals.lean).
  GIVEN WITH THE SEED: the statements are not yours to turn. If you find one false, say at which input.
  Laid BY PROGRAM, IN A SANDBOX (cutbox-rows.mjs): the forced cells as the released guide's own fill.sh prints them over the translation 6d6ca0b27c361a8e… (all of the seat's roots in one cut). By AI agents, Wed Nov 11 2026. No macro, syntax, notation, axiom, sorry.
-/
import Derived.Test.YtnmmmedflmdpbaaChecked
import GoSem.Claim
import GoSem.ClaimJoined
import GoSem.ClaimMapViews
import Derived.JoinedTies
import Derived.KernelRfl
namespace Go.Proofs.Ytnmmmedflmdpbaa
/- THE CELL 'sum', in the pinned program and in every row, IS THE sha256 OF THE DUMP (.gsa) THAT YtnmmmedflmdpbaaProg.lean LOADS. Nothing in Lean hashes anything: it is a label: what it is worth is what the hold of that sum in a sandbox is worth. -/
noncomputable def Try.pinned : Pinned := { name := "ytnmmmedflmdpbaa", sum := "6d6ca0b27c361a8e48109bfcd6145b1168520eafa3000fcae97004b10cde1809", checked := Try.checked }
namespace Rows
def none {H : Type} : Left H := { results := [], args := [] }

/-- 'gatherumlaw20.PanelTells': WHATEVER THE INPUT: true; the input reads as it did. -/
def panelTellsSpec : ChangeSpec := { name := "panelTells", fn := fun _ => fun
  | [d1, d2, d3, d4, d5] => { results := [.lit (.bool true)], args := [d1, d2, d3, d4, d5] }
  | _ => none }
def panelTellsRow : OpenClaim := { program := "ytnmmmedflmdpbaa", sum := "6d6ca0b27c361a8e48109bfcd6145b1168520eafa3000fcae97004b10cde1809", func := "gatherum/gatherumlaw20.PanelTells", spec := "panelTells", apart := false }
def PanelTellsSaid : Prop := panelTellsRow.holds Try.pinned (OpenSpec.ofChange panelTellsSpec)

/-- ITS FALSE NEIGHBOUR: 'it returns false'. Refute it at one input. -/
def panelTellsWrong : ChangeSpec := { name := "panelTells", fn := fun _ => fun
  | [d1, d2, d3, d4, d5] => { results := [.lit (.bool false)], args := [d1, d2, d3, d4, d5] }
  | _ => none }
def PanelTellsWrongFalsely : Prop := panelTellsRow.holds Try.pinned (OpenSpec.ofChange panelTellsWrong)

/-- 'gatherumlaw20.PanelReads': WHATEVER THE INPUT: true; the input reads as it did. -/
def panelReadsSpec : ChangeSpec := { name := "panelReads", fn := fun _ => fun
  | [d1, d2, d3, d4] => { results := [.lit (.bool true)], args := [d1, d2, d3, d4] }
  | _ => none }
def panelReadsRow : OpenClaim := { program := "ytnmmmedflmdpbaa", sum := "6d6ca0b27c361a8e48109bfcd6145b1168520eafa3000fcae97004b10cde1809", func := "gatherum/gatherumlaw20.PanelReads", spec := "panelReads", apart := false }
def PanelReadsSaid : Prop := panelReadsRow.holds Try.pinned (OpenSpec.ofChange panelReadsSpec)

/-- ITS FALSE NEIGHBOUR: 'it returns false'. Refute it at one input. -/
def panelReadsWrong : ChangeSpec := { name := "panelReads", fn := fun _ => fun
  | [d1, d2, d3, d4] => { results := [.lit (.bool false)], args := [d1, d2, d3, d4] }
  | _ => none }
def PanelReadsWrongFalsely : Prop := panelReadsRow.holds Try.pinned (OpenSpec.ofChange panelReadsWrong)

/-- 'gatherumlaw20.PanelTurns': WHATEVER THE INPUT: true; the input reads as it did. -/
def panelTurnsSpec : ChangeSpec := { name := "panelTurns", fn := fun _ => fun
  | [d] => { results := [.lit (.bool true)], args := [d] }
  | _ => none }
def panelTurnsRow : OpenClaim := { program := "ytnmmmedflmdpbaa", sum := "6d6ca0b27c361a8e48109bfcd6145b1168520eafa3000fcae97004b10cde1809", func := "gatherum/gatherumlaw20.PanelTurns", spec := "panelTurns", apart := false }
def PanelTurnsSaid : Prop := panelTurnsRow.holds Try.pinned (OpenSpec.ofChange panelTurnsSpec)

/-- ITS FALSE NEIGHBOUR: 'it returns false'. Refute it at one input. -/
def panelTurnsWrong : ChangeSpec := { name := "panelTurns", fn := fun _ => fun
  | [d] => { results := [.lit (.bool false)], args := [d] }
  | _ => none }
def PanelTurnsWrongFalsely : Prop := panelTurnsRow.holds Try.pinned (OpenSpec.ofChange panelTurnsWrong)

/- THE SECOND FORM. 'bulk': how many values and letters a reading holds, each counted each time it is reached (what is shared counts as often as it is met; a slice's spare places count too). A statement '..UptoSaid' is the law's where the arguments, and the package variables that the reading takes, are together of bulk at most 1048576: NARROWER than '..Said'. Prove '..Said' where nothing that the law and all that it calls make is longer than what came in: it says more and counts as full. Else prove '..UptoSaid'. A law counts once. -/
mutual
def uptoBulk {H : Type} : DataW H → Nat
  | .lit (.string bytes) => bytes.length + 1
  | .lit _ => 1
  | .nil => 1
  | .ptr d => uptoBulk d + 1
  | .slice elems spare => uptoBulkAll elems + uptoBulkAll spare + 1
  | .agg parts => uptoBulkAll parts + 1
  | .iface _ d => uptoBulk d + 1
  | .map entries => uptoBulkEntries entries + 1
  | .held _ => 1
def uptoBulkAll {H : Type} : List (DataW H) → Nat
  | [] => 0
  | d :: r => uptoBulk d + uptoBulkAll r
def uptoBulkEntries {H : Type} : List (Lit × DataW H) → Nat
  | [] => 0
  | x :: r => uptoBulkEntry x + uptoBulkEntries r
def uptoBulkEntry {H : Type} : Lit × DataW H → Nat
  | (.string bytes, d) => bytes.length + uptoBulk d + 1
  | (_, d) => uptoBulk d + 1
 end
def uptoSmall : (H : Type) → List (DataW H) → Bool := fun _ ds => decide (uptoBulkAll ds ≤ 1048576)
def OpenSpec.upto (s : _root_.Go.ChangeSpec) : _root_.Go.OpenSpec := { _root_.Go.OpenSpec.ofChange s with cond := some uptoSmall }

/-- 'gatherumlaw20.PanelTells', WHERE WHAT IT READS IS OF BULK AT MOST 1048576: true; the input reads as it did. -/
def panelTellsUptoRow : OpenClaim := { program := "ytnmmmedflmdpbaa", sum := "6d6ca0b27c361a8e48109bfcd6145b1168520eafa3000fcae97004b10cde1809", func := "gatherum/gatherumlaw20.PanelTells", spec := "panelTells", apart := false, narrowed := true }
def PanelTellsUptoSaid : Prop := panelTellsUptoRow.holds Try.pinned (OpenSpec.upto panelTellsSpec)

/-- 'gatherumlaw20.PanelReads', WHERE WHAT IT READS IS OF BULK AT MOST 1048576: true; the input reads as it did. -/
def panelReadsUptoRow : OpenClaim := { program := "ytnmmmedflmdpbaa", sum := "6d6ca0b27c361a8e48109bfcd6145b1168520eafa3000fcae97004b10cde1809", func := "gatherum/gatherumlaw20.PanelReads", spec := "panelReads", apart := false, narrowed := true }
def PanelReadsUptoSaid : Prop := panelReadsUptoRow.holds Try.pinned (OpenSpec.upto panelReadsSpec)

/-- 'gatherumlaw20.PanelTurns', WHERE WHAT IT READS IS OF BULK AT MOST 1048576: true; the input reads as it did. -/
def panelTurnsUptoRow : OpenClaim := { program := "ytnmmmedflmdpbaa", sum := "6d6ca0b27c361a8e48109bfcd6145b1168520eafa3000fcae97004b10cde1809", func := "gatherum/gatherumlaw20.PanelTurns", spec := "panelTurns", apart := false, narrowed := true }
def PanelTurnsUptoSaid : Prop := panelTurnsUptoRow.holds Try.pinned (OpenSpec.upto panelTurnsSpec)

end Rows
end Go.Proofs.Ytnmmmedflmdpbaa
