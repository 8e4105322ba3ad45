/- A slice of numbers in new memory, that grows. -/
import Derived.Test.YtnofncibplgmpaaBoxes
import Derived.Deep.AppendLies
import Derived.Lib.Hide
namespace Go.Proofs.Ytnofncibplgmpaa
open Go.RowKit
set_option linter.unusedVariables false

/-- v is a slice of the call's own (from block base on) that holds the numbers l. -/
def rowI (w : World) (base : Nat) (v : Value) (l : List Int) : Prop := w.ownsRow base 3 1 v l.length (l.map (Value.int .i64))
theorem rowI.up {w w' : World} {base : Nat} {v : Value} {l : List Int} (h : rowI w base v l) (hb : Below w.heap.size w w') : rowI w' base v l := by
  refine World.ownsRow.kept h (row := none) ⟨hb.os, hb.tape, hb.output, hb.size, fun k hk _ => hb.block k hk⟩ ?_
  rcases h.2 with ⟨rfl, _⟩ | ⟨g, cap, cur, rfl, _⟩
  · exact .inl rfl
  · exact .inr (by simp [Value.ownBlock])
theorem rowI_form {w : World} {base : Nat} {v : Value} {l : List Int} (h : rowI w base v l) (hl : 0 < l.length) :
    ∃ g cap, v = .slice (some ⟨g, 0, none⟩) l.length cap ∧ base ≤ g ∧ g < w.heap.size ∧ ∀ i x, l[i]? = some x → w.cell? ⟨g, i, none⟩ = some (.int .i64 x) := by
  obtain ⟨g, cap, hv, hb, hlt⟩ := World.ownsRow.form h hl
  subst hv
  have hc := World.ownsRow.cells h (g := g) rfl
  have ad : ∀ j, (⟨g, 0, none⟩ : Addr).add j = ⟨g, j, none⟩ := fun j => by unfold Addr.add; split <;> simp_all
  refine ⟨g, cap, rfl, hb, hlt, fun i x hx => ?_⟩
  have c0 := hc i (.int .i64 x) (by simp [hx])
  rw [ad] at c0
  exact c0
end Go.Proofs.Ytnofncibplgmpaa
