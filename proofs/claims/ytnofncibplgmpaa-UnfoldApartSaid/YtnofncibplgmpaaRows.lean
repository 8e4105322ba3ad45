/-
  No cell of these rows narrows 'for every input' (looked for: loops, veiled, ifaces, maps, wideKeys, modest, calm, conditions, laid).
  DERIVED. THE GIVEN ROWS OF THIS SEAT. 3 by the template 'for every input the law returns true; each argument reads behind the call as it read before'; 0 by the template 'total and deterministic' (their statements: YtnofncibplgmpaaTotals.lean).
  GIVEN WITH THE SEED: the statements are not yours to turn. If you find one false, say at which input.
  Laid BY PROGRAM, IN A SANDBOX (cutbox-rows.mjs): the forced cells as the released guide's own fill.sh prints them over the translation 453ee22b1665726a… (all of the seat's roots in one cut). By AI agents, Wed Nov 11 2026. No macro, syntax, notation, axiom, sorry.
-/
import Derived.Test.YtnofncibplgmpaaChecked
import GoSem.Claim
import GoSem.ClaimJoined
import GoSem.ClaimMapViews
import Derived.JoinedTies
import Derived.KernelRfl
namespace Go.Proofs.Ytnofncibplgmpaa
/- THE CELL 'sum', in the pinned program and in every row, IS THE sha256 OF THE DUMP (.gsa) THAT YtnofncibplgmpaaProg.lean LOADS. Nothing in Lean hashes anything: it is a label: what it is worth is what the hold of that sum in a sandbox is worth. -/
noncomputable def Try.pinned : Pinned := { name := "ytnofncibplgmpaa", sum := "453ee22b1665726adf4788a4acfbbfafbe12a7b0f8b1353cd3e79a38f7cdf756", checked := Try.checked }
namespace Rows
def none {H : Type} : Left H := { results := [], args := [] }

/-- 'gatherumlaw13.UnfoldTells': WHATEVER THE INPUT: true; the input reads as it did. -/
def unfoldTellsSpec : ChangeSpec := { name := "unfoldTells", fn := fun _ => fun
  | [d] => { results := [.lit (.bool true)], args := [d] }
  | _ => none }
def unfoldTellsRow : OpenClaim := { program := "ytnofncibplgmpaa", sum := "453ee22b1665726adf4788a4acfbbfafbe12a7b0f8b1353cd3e79a38f7cdf756", func := "gatherum/gatherumlaw13.UnfoldTells", spec := "unfoldTells", inPlace := ["slices.overlaps[gatherum/unfold.piece]"], unfollowed := true, recurses := true, apart := false }
def UnfoldTellsSaid : Prop := unfoldTellsRow.holds Try.pinned (OpenSpec.ofChange unfoldTellsSpec)

/-- ITS FALSE NEIGHBOUR: 'it returns false'. Refute it at one input. -/
def unfoldTellsWrong : ChangeSpec := { name := "unfoldTells", fn := fun _ => fun
  | [d] => { results := [.lit (.bool false)], args := [d] }
  | _ => none }
def UnfoldTellsWrongFalsely : Prop := unfoldTellsRow.holds Try.pinned (OpenSpec.ofChange unfoldTellsWrong)

/-- 'gatherumlaw13.UnfoldApart': WHATEVER THE INPUT: true; the input reads as it did. -/
def unfoldApartSpec : ChangeSpec := { name := "unfoldApart", fn := fun _ => fun
  | [d] => { results := [.lit (.bool true)], args := [d] }
  | _ => none }
def unfoldApartRow : OpenClaim := { program := "ytnofncibplgmpaa", sum := "453ee22b1665726adf4788a4acfbbfafbe12a7b0f8b1353cd3e79a38f7cdf756", func := "gatherum/gatherumlaw13.UnfoldApart", spec := "unfoldApart", inPlace := ["slices.overlaps[gatherum/unfold.piece]"], unfollowed := true, recurses := true, apart := false }
def UnfoldApartSaid : Prop := unfoldApartRow.holds Try.pinned (OpenSpec.ofChange unfoldApartSpec)

/-- ITS FALSE NEIGHBOUR: 'it returns false'. Refute it at one input. -/
def unfoldApartWrong : ChangeSpec := { name := "unfoldApart", fn := fun _ => fun
  | [d] => { results := [.lit (.bool false)], args := [d] }
  | _ => none }
def UnfoldApartWrongFalsely : Prop := unfoldApartRow.holds Try.pinned (OpenSpec.ofChange unfoldApartWrong)

/-- 'gatherumlaw13.UnfoldTumbles': WHATEVER THE INPUT: true; the input reads as it did. -/
def unfoldTumblesSpec : ChangeSpec := { name := "unfoldTumbles", fn := fun _ => fun
  | [d1, d2] => { results := [.lit (.bool true)], args := [d1, d2] }
  | _ => none }
def unfoldTumblesRow : OpenClaim := { program := "ytnofncibplgmpaa", sum := "453ee22b1665726adf4788a4acfbbfafbe12a7b0f8b1353cd3e79a38f7cdf756", func := "gatherum/gatherumlaw13.UnfoldTumbles", spec := "unfoldTumbles", inPlace := ["slices.overlaps[gatherum/unfold.piece]"], unfollowed := true, recurses := true, apart := false }
def UnfoldTumblesSaid : Prop := unfoldTumblesRow.holds Try.pinned (OpenSpec.ofChange unfoldTumblesSpec)

/-- ITS FALSE NEIGHBOUR: 'it returns false'. Refute it at one input. -/
def unfoldTumblesWrong : ChangeSpec := { name := "unfoldTumbles", fn := fun _ => fun
  | [d1, d2] => { results := [.lit (.bool false)], args := [d1, d2] }
  | _ => none }
def UnfoldTumblesWrongFalsely : Prop := unfoldTumblesRow.holds Try.pinned (OpenSpec.ofChange unfoldTumblesWrong)

/- THE SECOND FORM. 'bulk': how many values and letters a reading holds, each counted each time it is reached (what is shared counts as often as it is met; a slice's spare places count too). A statement '..UptoSaid' is the law's where the arguments, and the package variables that the reading takes, are together of bulk at most 1048576: NARROWER than '..Said'. Prove '..Said' where nothing that the law and all that it calls make is longer than what came in: it says more and counts as full. Else prove '..UptoSaid'. A law counts once. -/
mutual
def uptoBulk {H : Type} : DataW H → Nat
  | .lit (.string bytes) => bytes.length + 1
  | .lit _ => 1
  | .nil => 1
  | .ptr d => uptoBulk d + 1
  | .slice elems spare => uptoBulkAll elems + uptoBulkAll spare + 1
  | .agg parts => uptoBulkAll parts + 1
  | .iface _ d => uptoBulk d + 1
  | .map entries => uptoBulkEntries entries + 1
  | .held _ => 1
def uptoBulkAll {H : Type} : List (DataW H) → Nat
  | [] => 0
  | d :: r => uptoBulk d + uptoBulkAll r
def uptoBulkEntries {H : Type} : List (Lit × DataW H) → Nat
  | [] => 0
  | x :: r => uptoBulkEntry x + uptoBulkEntries r
def uptoBulkEntry {H : Type} : Lit × DataW H → Nat
  | (.string bytes, d) => bytes.length + uptoBulk d + 1
  | (_, d) => uptoBulk d + 1
 end
def uptoSmall : (H : Type) → List (DataW H) → Bool := fun _ ds => decide (uptoBulkAll ds ≤ 1048576)
def OpenSpec.upto (s : _root_.Go.ChangeSpec) : _root_.Go.OpenSpec := { _root_.Go.OpenSpec.ofChange s with cond := some uptoSmall }

/-- 'gatherumlaw13.UnfoldTells', WHERE WHAT IT READS IS OF BULK AT MOST 1048576: true; the input reads as it did. -/
def unfoldTellsUptoRow : OpenClaim := { program := "ytnofncibplgmpaa", sum := "453ee22b1665726adf4788a4acfbbfafbe12a7b0f8b1353cd3e79a38f7cdf756", func := "gatherum/gatherumlaw13.UnfoldTells", spec := "unfoldTells", inPlace := ["slices.overlaps[gatherum/unfold.piece]"], unfollowed := true, recurses := true, apart := false, narrowed := true }
def UnfoldTellsUptoSaid : Prop := unfoldTellsUptoRow.holds Try.pinned (OpenSpec.upto unfoldTellsSpec)

/-- 'gatherumlaw13.UnfoldApart', WHERE WHAT IT READS IS OF BULK AT MOST 1048576: true; the input reads as it did. -/
def unfoldApartUptoRow : OpenClaim := { program := "ytnofncibplgmpaa", sum := "453ee22b1665726adf4788a4acfbbfafbe12a7b0f8b1353cd3e79a38f7cdf756", func := "gatherum/gatherumlaw13.UnfoldApart", spec := "unfoldApart", inPlace := ["slices.overlaps[gatherum/unfold.piece]"], unfollowed := true, recurses := true, apart := false, narrowed := true }
def UnfoldApartUptoSaid : Prop := unfoldApartUptoRow.holds Try.pinned (OpenSpec.upto unfoldApartSpec)

/-- 'gatherumlaw13.UnfoldTumbles', WHERE WHAT IT READS IS OF BULK AT MOST 1048576: true; the input reads as it did. -/
def unfoldTumblesUptoRow : OpenClaim := { program := "ytnofncibplgmpaa", sum := "453ee22b1665726adf4788a4acfbbfafbe12a7b0f8b1353cd3e79a38f7cdf756", func := "gatherum/gatherumlaw13.UnfoldTumbles", spec := "unfoldTumbles", inPlace := ["slices.overlaps[gatherum/unfold.piece]"], unfollowed := true, recurses := true, apart := false, narrowed := true }
def UnfoldTumblesUptoSaid : Prop := unfoldTumblesUptoRow.holds Try.pinned (OpenSpec.upto unfoldTumblesSpec)

end Rows
end Go.Proofs.Ytnofncibplgmpaa
