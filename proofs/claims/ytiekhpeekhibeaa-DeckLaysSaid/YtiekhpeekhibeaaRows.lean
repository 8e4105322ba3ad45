/-
  No cell of these rows narrows 'for every input' (looked for: loops, veiled, ifaces, maps, wideKeys, modest, calm, conditions, laid).
  DERIVED. THE GIVEN ROWS OF THIS SEAT. 4 by the template 'for every input the law returns true; each argument reads behind the call as it read before'; 0 by the template 'total and deterministic' (their statements: YtiekhpeekhibeaaTotals.lean).
  GIVEN WITH THE SEED: the statements are not yours to turn. If you find one false, say at which input.
  Laid BY PROGRAM, IN A SANDBOX (cutbox-rows.mjs): the forced cells as the released guide's own fill.sh prints them over the translation eb99b600dfeae926… (all of the seat's roots in one cut). By AI agents, Wed Nov 11 2026. No macro, syntax, notation, axiom, sorry.
-/
import Derived.Test.YtiekhpeekhibeaaChecked
import GoSem.Claim
import GoSem.ClaimJoined
import GoSem.ClaimMapViews
import Derived.JoinedTies
import Derived.KernelRfl
namespace Go.Proofs.Ytiekhpeekhibeaa
/- THE CELL 'sum', in the pinned program and in every row, IS THE sha256 OF THE DUMP (.gsa) THAT YtiekhpeekhibeaaProg.lean LOADS. Nothing in Lean hashes anything: it is a label: what it is worth is what the hold of that sum in a sandbox is worth. -/
noncomputable def Try.pinned : Pinned := { name := "ytiekhpeekhibeaa", sum := "eb99b600dfeae926c59797ce29bd149a16880571903a1a4fb691a0aaef57bc0b", checked := Try.checked }
namespace Rows
def none {H : Type} : Left H := { results := [], args := [] }

/-- 'gatherumlaw08.DeckTurns': WHATEVER THE INPUT: true; the input reads as it did. -/
def deckTurnsSpec : ChangeSpec := { name := "deckTurns", fn := fun _ => fun
  | [d] => { results := [.lit (.bool true)], args := [d] }
  | _ => none }
def deckTurnsRow : OpenClaim := { program := "ytiekhpeekhibeaa", sum := "eb99b600dfeae926c59797ce29bd149a16880571903a1a4fb691a0aaef57bc0b", func := "gatherum/gatherumlaw08.DeckTurns", spec := "deckTurns", inPlace := ["slices.overlaps[int]"], unfollowed := true, recurses := true, apart := false }
def DeckTurnsSaid : Prop := deckTurnsRow.holds Try.pinned (OpenSpec.ofChange deckTurnsSpec)

/-- ITS FALSE NEIGHBOUR: 'it returns false'. Refute it at one input. -/
def deckTurnsWrong : ChangeSpec := { name := "deckTurns", fn := fun _ => fun
  | [d] => { results := [.lit (.bool false)], args := [d] }
  | _ => none }
def DeckTurnsWrongFalsely : Prop := deckTurnsRow.holds Try.pinned (OpenSpec.ofChange deckTurnsWrong)

/-- 'gatherumlaw08.DeckLays': WHATEVER THE INPUT: true; the input reads as it did. -/
def deckLaysSpec : ChangeSpec := { name := "deckLays", fn := fun _ => fun
  | [d1, d2, d3] => { results := [.lit (.bool true)], args := [d1, d2, d3] }
  | _ => none }
def deckLaysRow : OpenClaim := { program := "ytiekhpeekhibeaa", sum := "eb99b600dfeae926c59797ce29bd149a16880571903a1a4fb691a0aaef57bc0b", func := "gatherum/gatherumlaw08.DeckLays", spec := "deckLays", inPlace := ["slices.overlaps[int]"], unfollowed := true, recurses := true, apart := false }
def DeckLaysSaid : Prop := deckLaysRow.holds Try.pinned (OpenSpec.ofChange deckLaysSpec)

/-- ITS FALSE NEIGHBOUR: 'it returns false'. Refute it at one input. -/
def deckLaysWrong : ChangeSpec := { name := "deckLays", fn := fun _ => fun
  | [d1, d2, d3] => { results := [.lit (.bool false)], args := [d1, d2, d3] }
  | _ => none }
def DeckLaysWrongFalsely : Prop := deckLaysRow.holds Try.pinned (OpenSpec.ofChange deckLaysWrong)

/-- 'gatherumlaw08.DeckSelf': WHATEVER THE INPUT: true; the input reads as it did. -/
def deckSelfSpec : ChangeSpec := { name := "deckSelf", fn := fun _ => fun
  | [d1, d2] => { results := [.lit (.bool true)], args := [d1, d2] }
  | _ => none }
def deckSelfRow : OpenClaim := { program := "ytiekhpeekhibeaa", sum := "eb99b600dfeae926c59797ce29bd149a16880571903a1a4fb691a0aaef57bc0b", func := "gatherum/gatherumlaw08.DeckSelf", spec := "deckSelf", inPlace := ["slices.overlaps[int]"], unfollowed := true, recurses := true, apart := false }
def DeckSelfSaid : Prop := deckSelfRow.holds Try.pinned (OpenSpec.ofChange deckSelfSpec)

/-- ITS FALSE NEIGHBOUR: 'it returns false'. Refute it at one input. -/
def deckSelfWrong : ChangeSpec := { name := "deckSelf", fn := fun _ => fun
  | [d1, d2] => { results := [.lit (.bool false)], args := [d1, d2] }
  | _ => none }
def DeckSelfWrongFalsely : Prop := deckSelfRow.holds Try.pinned (OpenSpec.ofChange deckSelfWrong)

/-- 'gatherumlaw08.DeckCuts': WHATEVER THE INPUT: true; the input reads as it did. -/
def deckCutsSpec : ChangeSpec := { name := "deckCuts", fn := fun _ => fun
  | [d1, d2] => { results := [.lit (.bool true)], args := [d1, d2] }
  | _ => none }
def deckCutsRow : OpenClaim := { program := "ytiekhpeekhibeaa", sum := "eb99b600dfeae926c59797ce29bd149a16880571903a1a4fb691a0aaef57bc0b", func := "gatherum/gatherumlaw08.DeckCuts", spec := "deckCuts", inPlace := ["slices.overlaps[int]"], unfollowed := true, recurses := true, apart := false }
def DeckCutsSaid : Prop := deckCutsRow.holds Try.pinned (OpenSpec.ofChange deckCutsSpec)

/-- ITS FALSE NEIGHBOUR: 'it returns false'. Refute it at one input. -/
def deckCutsWrong : ChangeSpec := { name := "deckCuts", fn := fun _ => fun
  | [d1, d2] => { results := [.lit (.bool false)], args := [d1, d2] }
  | _ => none }
def DeckCutsWrongFalsely : Prop := deckCutsRow.holds Try.pinned (OpenSpec.ofChange deckCutsWrong)

/- THE SECOND FORM. 'bulk': how many values and letters a reading holds, each counted each time it is reached (what is shared counts as often as it is met; a slice's spare places count too). A statement '..UptoSaid' is the law's where the arguments, and the package variables that the reading takes, are together of bulk at most 1048576: NARROWER than '..Said'. Prove '..Said' where nothing that the law and all that it calls make is longer than what came in: it says more and counts as full. Else prove '..UptoSaid'. A law counts once. -/
mutual
def uptoBulk {H : Type} : DataW H → Nat
  | .lit (.string bytes) => bytes.length + 1
  | .lit _ => 1
  | .nil => 1
  | .ptr d => uptoBulk d + 1
  | .slice elems spare => uptoBulkAll elems + uptoBulkAll spare + 1
  | .agg parts => uptoBulkAll parts + 1
  | .iface _ d => uptoBulk d + 1
  | .map entries => uptoBulkEntries entries + 1
  | .held _ => 1
def uptoBulkAll {H : Type} : List (DataW H) → Nat
  | [] => 0
  | d :: r => uptoBulk d + uptoBulkAll r
def uptoBulkEntries {H : Type} : List (Lit × DataW H) → Nat
  | [] => 0
  | x :: r => uptoBulkEntry x + uptoBulkEntries r
def uptoBulkEntry {H : Type} : Lit × DataW H → Nat
  | (.string bytes, d) => bytes.length + uptoBulk d + 1
  | (_, d) => uptoBulk d + 1
 end
def uptoSmall : (H : Type) → List (DataW H) → Bool := fun _ ds => decide (uptoBulkAll ds ≤ 1048576)
def OpenSpec.upto (s : _root_.Go.ChangeSpec) : _root_.Go.OpenSpec := { _root_.Go.OpenSpec.ofChange s with cond := some uptoSmall }

/-- 'gatherumlaw08.DeckTurns', WHERE WHAT IT READS IS OF BULK AT MOST 1048576: true; the input reads as it did. -/
def deckTurnsUptoRow : OpenClaim := { program := "ytiekhpeekhibeaa", sum := "eb99b600dfeae926c59797ce29bd149a16880571903a1a4fb691a0aaef57bc0b", func := "gatherum/gatherumlaw08.DeckTurns", spec := "deckTurns", inPlace := ["slices.overlaps[int]"], unfollowed := true, recurses := true, apart := false, narrowed := true }
def DeckTurnsUptoSaid : Prop := deckTurnsUptoRow.holds Try.pinned (OpenSpec.upto deckTurnsSpec)

/-- 'gatherumlaw08.DeckLays', WHERE WHAT IT READS IS OF BULK AT MOST 1048576: true; the input reads as it did. -/
def deckLaysUptoRow : OpenClaim := { program := "ytiekhpeekhibeaa", sum := "eb99b600dfeae926c59797ce29bd149a16880571903a1a4fb691a0aaef57bc0b", func := "gatherum/gatherumlaw08.DeckLays", spec := "deckLays", inPlace := ["slices.overlaps[int]"], unfollowed := true, recurses := true, apart := false, narrowed := true }
def DeckLaysUptoSaid : Prop := deckLaysUptoRow.holds Try.pinned (OpenSpec.upto deckLaysSpec)

/-- 'gatherumlaw08.DeckSelf', WHERE WHAT IT READS IS OF BULK AT MOST 1048576: true; the input reads as it did. -/
def deckSelfUptoRow : OpenClaim := { program := "ytiekhpeekhibeaa", sum := "eb99b600dfeae926c59797ce29bd149a16880571903a1a4fb691a0aaef57bc0b", func := "gatherum/gatherumlaw08.DeckSelf", spec := "deckSelf", inPlace := ["slices.overlaps[int]"], unfollowed := true, recurses := true, apart := false, narrowed := true }
def DeckSelfUptoSaid : Prop := deckSelfUptoRow.holds Try.pinned (OpenSpec.upto deckSelfSpec)

/-- 'gatherumlaw08.DeckCuts', WHERE WHAT IT READS IS OF BULK AT MOST 1048576: true; the input reads as it did. -/
def deckCutsUptoRow : OpenClaim := { program := "ytiekhpeekhibeaa", sum := "eb99b600dfeae926c59797ce29bd149a16880571903a1a4fb691a0aaef57bc0b", func := "gatherum/gatherumlaw08.DeckCuts", spec := "deckCuts", inPlace := ["slices.overlaps[int]"], unfollowed := true, recurses := true, apart := false, narrowed := true }
def DeckCutsUptoSaid : Prop := deckCutsUptoRow.holds Try.pinned (OpenSpec.upto deckCutsSpec)

end Rows
end Go.Proofs.Ytiekhpeekhibeaa
