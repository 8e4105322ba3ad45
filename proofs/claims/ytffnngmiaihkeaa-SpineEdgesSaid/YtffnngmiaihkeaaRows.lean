/-
  No cell of these rows narrows 'for every input' (looked for: loops, veiled, ifaces, maps, wideKeys, modest, calm, conditions, laid).
  DERIVED. THE GIVEN ROWS OF THIS SEAT. 3 by the template 'for every input the law returns true; each argument reads behind the call as it read before'; 0 by the template 'total and deterministic' (their statements: YtffnngmiaihkeaaTotals.lean).
  GIVEN WITH THE SEED: the statements are not yours to turn. If you find one false, say at which input.
  Laid BY PROGRAM, IN A SANDBOX (cutbox-rows.mjs): the forced cells as the released guide's own fill.sh prints them over the translation 9f47651c90b364b1… (all of the seat's roots in one cut). By AI agents, Wed Nov 11 2026. No macro, syntax, notation, axiom, sorry.
-/
import Derived.Test.YtffnngmiaihkeaaChecked
import GoSem.Claim
import GoSem.ClaimJoined
import GoSem.ClaimMapViews
import Derived.JoinedTies
import Derived.KernelRfl
namespace Go.Proofs.Ytffnngmiaihkeaa
/- THE CELL 'sum', in the pinned program and in every row, IS THE sha256 OF THE DUMP (.gsa) THAT YtffnngmiaihkeaaProg.lean LOADS. Nothing in Lean hashes anything: it is a label: what it is worth is what the hold of that sum in a sandbox is worth. -/
noncomputable def Try.pinned : Pinned := { name := "ytffnngmiaihkeaa", sum := "9f47651c90b364b15b60f0a27504907b13280df358c7b1cd095df0857fcbb7b7", checked := Try.checked }
namespace Rows
def none {H : Type} : Left H := { results := [], args := [] }

/-- 'gatherumlaw14.SpineEdges': WHATEVER THE INPUT: true; the input reads as it did. -/
def spineEdgesSpec : ChangeSpec := { name := "spineEdges", fn := fun _ => fun
  | [d1, d2, d3] => { results := [.lit (.bool true)], args := [d1, d2, d3] }
  | _ => none }
def spineEdgesRow : OpenClaim := { program := "ytffnngmiaihkeaa", sum := "9f47651c90b364b15b60f0a27504907b13280df358c7b1cd095df0857fcbb7b7", func := "gatherum/gatherumlaw14.SpineEdges", spec := "spineEdges", inPlace := ["slices.overlaps[gatherum/unfold.piece]"], unfollowed := true, recurses := true, apart := false }
def SpineEdgesSaid : Prop := spineEdgesRow.holds Try.pinned (OpenSpec.ofChange spineEdgesSpec)

/-- ITS FALSE NEIGHBOUR: 'it returns false'. Refute it at one input. -/
def spineEdgesWrong : ChangeSpec := { name := "spineEdges", fn := fun _ => fun
  | [d1, d2, d3] => { results := [.lit (.bool false)], args := [d1, d2, d3] }
  | _ => none }
def SpineEdgesWrongFalsely : Prop := spineEdgesRow.holds Try.pinned (OpenSpec.ofChange spineEdgesWrong)

/-- 'gatherumlaw14.SpineNests': WHATEVER THE INPUT: true; the input reads as it did. -/
def spineNestsSpec : ChangeSpec := { name := "spineNests", fn := fun _ => fun
  | [d] => { results := [.lit (.bool true)], args := [d] }
  | _ => none }
def spineNestsRow : OpenClaim := { program := "ytffnngmiaihkeaa", sum := "9f47651c90b364b15b60f0a27504907b13280df358c7b1cd095df0857fcbb7b7", func := "gatherum/gatherumlaw14.SpineNests", spec := "spineNests", inPlace := ["slices.overlaps[gatherum/unfold.piece]"], unfollowed := true, recurses := true, apart := false }
def SpineNestsSaid : Prop := spineNestsRow.holds Try.pinned (OpenSpec.ofChange spineNestsSpec)

/-- ITS FALSE NEIGHBOUR: 'it returns false'. Refute it at one input. -/
def spineNestsWrong : ChangeSpec := { name := "spineNests", fn := fun _ => fun
  | [d] => { results := [.lit (.bool false)], args := [d] }
  | _ => none }
def SpineNestsWrongFalsely : Prop := spineNestsRow.holds Try.pinned (OpenSpec.ofChange spineNestsWrong)

/-- 'gatherumlaw14.SpineOpens': WHATEVER THE INPUT: true; the input reads as it did. -/
def spineOpensSpec : ChangeSpec := { name := "spineOpens", fn := fun _ => fun
  | [d1, d2] => { results := [.lit (.bool true)], args := [d1, d2] }
  | _ => none }
def spineOpensRow : OpenClaim := { program := "ytffnngmiaihkeaa", sum := "9f47651c90b364b15b60f0a27504907b13280df358c7b1cd095df0857fcbb7b7", func := "gatherum/gatherumlaw14.SpineOpens", spec := "spineOpens", inPlace := ["slices.overlaps[gatherum/unfold.piece]"], unfollowed := true, recurses := true, apart := false }
def SpineOpensSaid : Prop := spineOpensRow.holds Try.pinned (OpenSpec.ofChange spineOpensSpec)

/-- ITS FALSE NEIGHBOUR: 'it returns false'. Refute it at one input. -/
def spineOpensWrong : ChangeSpec := { name := "spineOpens", fn := fun _ => fun
  | [d1, d2] => { results := [.lit (.bool false)], args := [d1, d2] }
  | _ => none }
def SpineOpensWrongFalsely : Prop := spineOpensRow.holds Try.pinned (OpenSpec.ofChange spineOpensWrong)

/- THE SECOND FORM. 'bulk': how many values and letters a reading holds, each counted each time it is reached (what is shared counts as often as it is met; a slice's spare places count too). A statement '..UptoSaid' is the law's where the arguments, and the package variables that the reading takes, are together of bulk at most 1048576: NARROWER than '..Said'. Prove '..Said' where nothing that the law and all that it calls make is longer than what came in: it says more and counts as full. Else prove '..UptoSaid'. A law counts once. -/
mutual
def uptoBulk {H : Type} : DataW H → Nat
  | .lit (.string bytes) => bytes.length + 1
  | .lit _ => 1
  | .nil => 1
  | .ptr d => uptoBulk d + 1
  | .slice elems spare => uptoBulkAll elems + uptoBulkAll spare + 1
  | .agg parts => uptoBulkAll parts + 1
  | .iface _ d => uptoBulk d + 1
  | .map entries => uptoBulkEntries entries + 1
  | .held _ => 1
def uptoBulkAll {H : Type} : List (DataW H) → Nat
  | [] => 0
  | d :: r => uptoBulk d + uptoBulkAll r
def uptoBulkEntries {H : Type} : List (Lit × DataW H) → Nat
  | [] => 0
  | x :: r => uptoBulkEntry x + uptoBulkEntries r
def uptoBulkEntry {H : Type} : Lit × DataW H → Nat
  | (.string bytes, d) => bytes.length + uptoBulk d + 1
  | (_, d) => uptoBulk d + 1
 end
def uptoSmall : (H : Type) → List (DataW H) → Bool := fun _ ds => decide (uptoBulkAll ds ≤ 1048576)
def OpenSpec.upto (s : _root_.Go.ChangeSpec) : _root_.Go.OpenSpec := { _root_.Go.OpenSpec.ofChange s with cond := some uptoSmall }

/-- 'gatherumlaw14.SpineEdges', WHERE WHAT IT READS IS OF BULK AT MOST 1048576: true; the input reads as it did. -/
def spineEdgesUptoRow : OpenClaim := { program := "ytffnngmiaihkeaa", sum := "9f47651c90b364b15b60f0a27504907b13280df358c7b1cd095df0857fcbb7b7", func := "gatherum/gatherumlaw14.SpineEdges", spec := "spineEdges", inPlace := ["slices.overlaps[gatherum/unfold.piece]"], unfollowed := true, recurses := true, apart := false, narrowed := true }
def SpineEdgesUptoSaid : Prop := spineEdgesUptoRow.holds Try.pinned (OpenSpec.upto spineEdgesSpec)

/-- 'gatherumlaw14.SpineNests', WHERE WHAT IT READS IS OF BULK AT MOST 1048576: true; the input reads as it did. -/
def spineNestsUptoRow : OpenClaim := { program := "ytffnngmiaihkeaa", sum := "9f47651c90b364b15b60f0a27504907b13280df358c7b1cd095df0857fcbb7b7", func := "gatherum/gatherumlaw14.SpineNests", spec := "spineNests", inPlace := ["slices.overlaps[gatherum/unfold.piece]"], unfollowed := true, recurses := true, apart := false, narrowed := true }
def SpineNestsUptoSaid : Prop := spineNestsUptoRow.holds Try.pinned (OpenSpec.upto spineNestsSpec)

/-- 'gatherumlaw14.SpineOpens', WHERE WHAT IT READS IS OF BULK AT MOST 1048576: true; the input reads as it did. -/
def spineOpensUptoRow : OpenClaim := { program := "ytffnngmiaihkeaa", sum := "9f47651c90b364b15b60f0a27504907b13280df358c7b1cd095df0857fcbb7b7", func := "gatherum/gatherumlaw14.SpineOpens", spec := "spineOpens", inPlace := ["slices.overlaps[gatherum/unfold.piece]"], unfollowed := true, recurses := true, apart := false, narrowed := true }
def SpineOpensUptoSaid : Prop := spineOpensUptoRow.holds Try.pinned (OpenSpec.upto spineOpensSpec)

end Rows
end Go.Proofs.Ytffnngmiaihkeaa
