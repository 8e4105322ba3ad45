/- gatherumlaw11.alive answers true, where the library's table of powers is as the program's text lays it. -/
import Derived.Test.YteehfhfdcemgoaaDoorStepText
namespace Go.Proofs.YteehfhfdcemgoaaDoor
open Go.RowKit DecMath
set_option linter.unusedVariables false

theorem itoa_1 : Lib.itoa 1 = [49] := by rw [Lib.itoa, if_neg (by decide)]; exact Lib.decDigits_one (by decide)
theorem text_R1u : textS ⟨2, 1, true⟩ = [82, 49, 117] := by unfold textS; rw [itoa_1]; rfl

theorem stepAlive_any (w : World) (hg : Tab w) : Calls Tryd.prog 6 #[] w fun e w' => e = .returned (.bool true) ∧ Below w.heap.size w w' := by
  have K1 := fun w => stepAfter_any 4 1 1 2 false w (by decide) (by decide)
  rw [show aft 4 1 1 2 = (2, 1, true) by decide +kernel] at K1
  have K2 := fun w h => stepPut_any ⟨2, 1, true⟩ w h
  simp only [text_R1u, show rightB 2 1 = true by decide +kernel, if_true] at K2
  have e : tx [82, 49, 117] = ⟨#[82, 49, 117]⟩ := rfl
  rw [e] at K2
  have H1 := Lib.hid K1; have H2 := Lib.hid K2; have G := Lib.hid hg
  clear K1 K2 hg e
  go_enter Tryd.func6, Tryd.ntmps6
  go_wp2_with fail
  refine (H1.out _).mono ?_
  rintro e w1 ⟨rfl, b1⟩
  have B1 := Lib.hid b1; clear b1
  go_wp2_with fail
  refine (H2.out _ (G.out.below B1.out)).mono ?_
  rintro e w2 ⟨rfl, b2⟩
  have B2 := Lib.hid (up_trans B1.out b2); clear b2
  go_wp2
  go_ret
  exact ⟨rfl, B2.out⟩
end Go.Proofs.YteehfhfdcemgoaaDoor
