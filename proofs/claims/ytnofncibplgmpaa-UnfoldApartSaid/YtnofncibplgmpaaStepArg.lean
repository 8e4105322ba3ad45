/- Steps that came in, as a list. -/
import Derived.Test.YtnofncibplgmpaaStepAll
import Derived.Test.YtnofncibplgmpaaOpenCells
namespace Go.Proofs.Ytnofncibplgmpaa
open Go.RowKit
set_option linter.unusedVariables false

/-- The steps that came in, as a list. -/
theorem steps_of (a : Option Addr) (len cap : Nat) (w : World)
    (h : (a = none ∧ len = 0 ∧ cap = 0) ∨ ∃ x, a = some x ∧ len ≤ cap ∧ cap ≤ maxLen ∧ ∀ i, i < len → (∃ z, w.cell? (x.add (i * 3 + 0)) = some (.int .i64 z) ∧ (Lit.int .i64 z).wf = true) ∧ (∃ z, w.cell? (x.add (i * 3 + 1)) = some (.int .i64 z) ∧ (Lit.int .i64 z).wf = true) ∧ (∃ z, w.cell? (x.add (i * 3 + 2)) = some (.bool z))) :
    ∃ l : List Sp, l.length = len ∧ (l = [] ∨ ∃ b off, a = some ⟨b, off, none⟩ ∧ InS w b off l) := by
  rcases h with ⟨rfl, rfl, rfl⟩ | ⟨x, rfl, hl, hm, hc⟩
  · exact ⟨[], rfl, .inl rfl⟩
  · by_cases h0 : len = 0
    · subst h0; exact ⟨[], rfl, .inl rfl⟩
    obtain ⟨b, off, spot⟩ := x
    have hspot : spot = none := by
      obtain ⟨⟨z, hz, _⟩, _⟩ := hc 0 (by omega)
      simpa [Addr.add] using World.cell?_spot hz
    subst hspot
    obtain ⟨l, e, hq⟩ := list_of (Q := fun i (p : Sp) => w.cell? ⟨b, off + i * 3, none⟩ = some (.int .i64 p.d) ∧ w.cell? ⟨b, off + i * 3 + 1, none⟩ = some (.int .i64 p.n) ∧ w.cell? ⟨b, off + i * 3 + 2, none⟩ = some (.bool p.u)) len (fun i hi => by
      obtain ⟨⟨d, h1, _⟩, ⟨n, h2, _⟩, u, h3⟩ := hc i hi
      rw [Go.WideShapes.add_plain] at h1 h2 h3
      exact ⟨⟨d, n, u⟩, by simpa using h1, by rw [Nat.add_assoc]; exact h2, by rw [Nat.add_assoc]; exact h3⟩)
    exact ⟨l, e, .inr ⟨b, off, rfl, hq⟩⟩
end Go.Proofs.Ytnofncibplgmpaa
