/-
  No cell of these rows narrows 'for every input' (looked for: loops, veiled, ifaces, maps, wideKeys, modest, calm, conditions, laid).
  DERIVED. THE GIVEN ROWS OF THIS SEAT. 2 by the template 'for every input the law returns true; each argument reads behind the call as it read before'; 0 by the template 'total and deterministic' (their statements: YtobpfncglbhcmaaTotals.lean).
  GIVEN WITH THE SEED: the statements are not yours to turn. If you find one false, say at which input.
  Laid BY PROGRAM, IN A SANDBOX (cutbox-rows.mjs): the forced cells as the released guide's own fill.sh prints them over the translation c09fa40cd500e84d… (all of the seat's roots in one cut). By AI agents, Wed Nov 11 2026. No macro, syntax, notation, axiom, sorry.
-/
import Derived.Test.YtobpfncglbhcmaaChecked
import GoSem.Claim
import GoSem.ClaimJoined
import GoSem.ClaimMapViews
import Derived.JoinedTies
import Derived.KernelRfl
namespace Go.Proofs.Ytobpfncglbhcmaa
/- THE CELL 'sum', in the pinned program and in every row, IS THE sha256 OF THE DUMP (.gsa) THAT YtobpfncglbhcmaaProg.lean LOADS. Nothing in Lean hashes anything: it is a label: what it is worth is what the hold of that sum in a sandbox is worth. -/
noncomputable def Try.pinned : Pinned := { name := "ytobpfncglbhcmaa", sum := "c09fa40cd500e84de892ab96172842c8365aadd2de643bf6f87dcaafdd2780fe", checked := Try.checked }
namespace Rows
def none {H : Type} : Left H := { results := [], args := [] }

/-- 'gatherumlaw21.StyleTells': WHATEVER THE INPUT: true; the input reads as it did. -/
def styleTellsSpec : ChangeSpec := { name := "styleTells", fn := fun _ => fun
  | [d] => { results := [.lit (.bool true)], args := [d] }
  | _ => none }
def styleTellsRow : OpenClaim := { program := "ytobpfncglbhcmaa", sum := "c09fa40cd500e84de892ab96172842c8365aadd2de643bf6f87dcaafdd2780fe", func := "gatherum/gatherumlaw21.StyleTells", spec := "styleTells", apart := false }
def StyleTellsSaid : Prop := styleTellsRow.holds Try.pinned (OpenSpec.ofChange styleTellsSpec)

/-- ITS FALSE NEIGHBOUR: 'it returns false'. Refute it at one input. -/
def styleTellsWrong : ChangeSpec := { name := "styleTells", fn := fun _ => fun
  | [d] => { results := [.lit (.bool false)], args := [d] }
  | _ => none }
def StyleTellsWrongFalsely : Prop := styleTellsRow.holds Try.pinned (OpenSpec.ofChange styleTellsWrong)

/-- 'gatherumlaw21.StyleFlips': WHATEVER THE INPUT: true; the input reads as it did. -/
def styleFlipsSpec : ChangeSpec := { name := "styleFlips", fn := fun _ => fun
  | [d1, d2] => { results := [.lit (.bool true)], args := [d1, d2] }
  | _ => none }
def styleFlipsRow : OpenClaim := { program := "ytobpfncglbhcmaa", sum := "c09fa40cd500e84de892ab96172842c8365aadd2de643bf6f87dcaafdd2780fe", func := "gatherum/gatherumlaw21.StyleFlips", spec := "styleFlips", apart := false }
def StyleFlipsSaid : Prop := styleFlipsRow.holds Try.pinned (OpenSpec.ofChange styleFlipsSpec)

/-- ITS FALSE NEIGHBOUR: 'it returns false'. Refute it at one input. -/
def styleFlipsWrong : ChangeSpec := { name := "styleFlips", fn := fun _ => fun
  | [d1, d2] => { results := [.lit (.bool false)], args := [d1, d2] }
  | _ => none }
def StyleFlipsWrongFalsely : Prop := styleFlipsRow.holds Try.pinned (OpenSpec.ofChange styleFlipsWrong)

/- THE SECOND FORM. 'bulk': how many values and letters a reading holds, each counted each time it is reached (what is shared counts as often as it is met; a slice's spare places count too). A statement '..UptoSaid' is the law's where the arguments, and the package variables that the reading takes, are together of bulk at most 1048576: NARROWER than '..Said'. Prove '..Said' where nothing that the law and all that it calls make is longer than what came in: it says more and counts as full. Else prove '..UptoSaid'. A law counts once. -/
mutual
def uptoBulk {H : Type} : DataW H → Nat
  | .lit (.string bytes) => bytes.length + 1
  | .lit _ => 1
  | .nil => 1
  | .ptr d => uptoBulk d + 1
  | .slice elems spare => uptoBulkAll elems + uptoBulkAll spare + 1
  | .agg parts => uptoBulkAll parts + 1
  | .iface _ d => uptoBulk d + 1
  | .map entries => uptoBulkEntries entries + 1
  | .held _ => 1
def uptoBulkAll {H : Type} : List (DataW H) → Nat
  | [] => 0
  | d :: r => uptoBulk d + uptoBulkAll r
def uptoBulkEntries {H : Type} : List (Lit × DataW H) → Nat
  | [] => 0
  | x :: r => uptoBulkEntry x + uptoBulkEntries r
def uptoBulkEntry {H : Type} : Lit × DataW H → Nat
  | (.string bytes, d) => bytes.length + uptoBulk d + 1
  | (_, d) => uptoBulk d + 1
 end
def uptoSmall : (H : Type) → List (DataW H) → Bool := fun _ ds => decide (uptoBulkAll ds ≤ 1048576)
def OpenSpec.upto (s : _root_.Go.ChangeSpec) : _root_.Go.OpenSpec := { _root_.Go.OpenSpec.ofChange s with cond := some uptoSmall }

/-- 'gatherumlaw21.StyleTells', WHERE WHAT IT READS IS OF BULK AT MOST 1048576: true; the input reads as it did. -/
def styleTellsUptoRow : OpenClaim := { program := "ytobpfncglbhcmaa", sum := "c09fa40cd500e84de892ab96172842c8365aadd2de643bf6f87dcaafdd2780fe", func := "gatherum/gatherumlaw21.StyleTells", spec := "styleTells", apart := false, narrowed := true }
def StyleTellsUptoSaid : Prop := styleTellsUptoRow.holds Try.pinned (OpenSpec.upto styleTellsSpec)

/-- 'gatherumlaw21.StyleFlips', WHERE WHAT IT READS IS OF BULK AT MOST 1048576: true; the input reads as it did. -/
def styleFlipsUptoRow : OpenClaim := { program := "ytobpfncglbhcmaa", sum := "c09fa40cd500e84de892ab96172842c8365aadd2de643bf6f87dcaafdd2780fe", func := "gatherum/gatherumlaw21.StyleFlips", spec := "styleFlips", apart := false, narrowed := true }
def StyleFlipsUptoSaid : Prop := styleFlipsUptoRow.holds Try.pinned (OpenSpec.upto styleFlipsSpec)

end Rows
end Go.Proofs.Ytobpfncglbhcmaa
