/- Turns as numbers from 0 to 7: which matrix each has, one behind another one, and what undoes it: facts that are looked through. -/
import Derived.Test.YthdemhahgjpdmaaTurnMat
namespace Go.Proofs.Ythdemhahgjpdmaa
open Go.RowKit
set_option linter.unusedVariables false

theorem mir_mod (t : Int) : mir (t % 8) = mir t := by unfold mir; rw [show t % 8 % 8 = t % 8 by omega]
theorem then_mod (a b : Int) : thenT a b = thenT (a % 8) (b % 8) := by
  unfold thenT
  rw [mir_mod, mir_mod, rem4, rem4]
theorem back_mod (a : Int) : backT a = backT (a % 8) := by
  unfold backT
  rw [mir_mod, rem4, show a % 8 % 8 = a % 8 by omega]
theorem fin8 (a : Int) : ∃ i : Fin 8, a % 8 = (i.val : Int) := ⟨⟨(a % 8).toNat, by omega⟩, by simp; omega⟩
theorem then_in (i j : Fin 8) : 0 ≤ thenT (i.val : Int) (j.val : Int) ∧ thenT (i.val : Int) (j.val : Int) ≤ 7 := by
  have : ∀ i j : Fin 8, 0 ≤ thenT (i.val : Int) (j.val : Int) ∧ thenT (i.val : Int) (j.val : Int) ≤ 7 := by decide +kernel
  exact this i j
theorem then_three (i j k : Fin 8) : thenT (thenT (i.val : Int) (j.val : Int)) (k.val : Int) = thenT (i.val : Int) (thenT (j.val : Int) (k.val : Int)) := by
  have : ∀ i j k : Fin 8, thenT (thenT (i.val : Int) (j.val : Int)) (k.val : Int) = thenT (i.val : Int) (thenT (j.val : Int) (k.val : Int)) := by decide +kernel
  exact this i j k
theorem then_back (i : Fin 8) : (0 ≤ backT (i.val : Int) ∧ backT (i.val : Int) ≤ 7) ∧ thenT (i.val : Int) (backT (i.val : Int)) = 0 ∧ thenT (backT (i.val : Int)) (i.val : Int) = 0 ∧ thenT 0 (i.val : Int) = (i.val : Int) ∧ thenT (i.val : Int) 0 = (i.val : Int) := by
  have : ∀ i : Fin 8, (0 ≤ backT (i.val : Int) ∧ backT (i.val : Int) ≤ 7) ∧ thenT (i.val : Int) (backT (i.val : Int)) = 0 ∧ thenT (backT (i.val : Int)) (i.val : Int) = 0 ∧ thenT 0 (i.val : Int) = (i.val : Int) ∧ thenT (i.val : Int) 0 = (i.val : Int) := by decide +kernel
  exact this i
theorem mat_then (i j : Fin 8) : mthen (mx (i.val : Int)) (mx (j.val : Int)) = mx (thenT (i.val : Int) (j.val : Int)) := by
  have : ∀ i j : Fin 8, (mthen (mx (i.val : Int)) (mx (j.val : Int))).a = (mx (thenT (i.val : Int) (j.val : Int))).a ∧ (mthen (mx (i.val : Int)) (mx (j.val : Int))).b = (mx (thenT (i.val : Int) (j.val : Int))).b ∧ (mthen (mx (i.val : Int)) (mx (j.val : Int))).c = (mx (thenT (i.val : Int) (j.val : Int))).c ∧ (mthen (mx (i.val : Int)) (mx (j.val : Int))).d = (mx (thenT (i.val : Int) (j.val : Int))).d := by decide +kernel
  obtain ⟨h1, h2, h3, h4⟩ := this i j
  generalize mthen (mx (i.val : Int)) (mx (j.val : Int)) = P at *
  generalize mx (thenT (i.val : Int) (j.val : Int)) = Q at *
  obtain ⟨a, b, c, d⟩ := P
  obtain ⟨a', b', c', d'⟩ := Q
  simp only at h1 h2 h3 h4
  rw [h1, h2, h3, h4]
theorem mat_does (i : Fin 8) (x y : Int) (h0 : -9223372036854775808 ≤ x) (h1 : x ≤ 9223372036854775807) (k0 : -9223372036854775808 ≤ y) (k1 : y ≤ 9223372036854775807) : mdo (mx (i.val : Int)) x y = doT (i.val : Int) x y := by
  have H : ∀ r : Int, (r = 0 ∨ r = 1 ∨ r = 2 ∨ r = 3 ∨ r = 4 ∨ r = 5 ∨ r = 6 ∨ r = 7) → mdo (mx r) x y = doT r x y := by
    intro r hr
    rcases hr with rfl | rfl | rfl | rfl | rfl | rfl | rfl | rfl
    all_goals
      simp only [mdo, mx, doT, neg64, IntKind.wrap_i64]
      refine Prod.ext ?_ ?_ <;> simp <;> omega
  have hi := i.isLt
  exact H _ (by omega)
end Go.Proofs.Ythdemhahgjpdmaa
