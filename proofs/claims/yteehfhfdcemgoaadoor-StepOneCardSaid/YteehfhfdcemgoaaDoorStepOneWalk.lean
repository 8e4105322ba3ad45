/- gatherumlaw11.StepOne answers true, for every number of columns and rows and every step. -/
import Derived.Test.YteehfhfdcemgoaaDoorStepAlive
import Derived.Test.YteehfhfdcemgoaaDoorDecLaid
import Derived.OpenShut
namespace Go.Proofs.YteehfhfdcemgoaaDoor
open Go.RowKit DecMath
set_option linter.unusedVariables false

set_option maxHeartbeats 1000000 in
theorem walkStepOne (c r d n : Int) (u : Bool) (w : World) (x0 : (Lit.int .i64 c).wf = true) (x1 : (Lit.int .i64 r).wf = true) (x2 : (Lit.int .i64 d).wf = true) (x3 : (Lit.int .i64 n).wf = true) (hg : Tab w) :
    Calls Tryd.prog 5 #[.int .i64 c, .int .i64 r, .agg #[.int .i64 d, .int .i64 n, .bool u]] w fun e w' => e = .returned (.bool true) ∧ Below w.heap.size w w' := by
  obtain ⟨c0, c1⟩ := bounds_i64 x0
  obtain ⟨r0, r1⟩ := bounds_i64 x1
  have KA := fun w => stepAfter_any c r d n u w c1 r1
  have G := Lib.hid hg
  clear hg x0 x1 x2 x3
  cases hz : (aft c r d n).2.2
  · rw [aft_no hz] at KA
    have HA := Lib.hid KA
    clear KA hz
    go_enter Tryd.func5, Tryd.ntmps5
    go_wp2_with fail
    refine (stepAlive_any _ (G.out.below (up_alloc (Below.refl _ _) _))).mono ?_
    rintro e w1 ⟨rfl, hb⟩
    have A := (Bx.new w 23 [.int .i64 d, .int .i64 n, .bool u]).up hb
    have B1 := Lib.hid (up_trans (up_alloc (Below.refl _ w) _) hb)
    have k0 := A.cell 0 rfl; have k1 := A.cell 1 rfl; have k2 := A.cell 2 rfl
    clear hb A
    go_wp2_with fail
    refine (HA.out _).mono ?_
    rintro e w2 ⟨rfl, hb⟩
    have B2 := Lib.hid (up_trans B1.out hb)
    clear hb
    go_wp2
    go_ret
    exact ⟨rfl, B2.out⟩
  · obtain ⟨⟨hcr, hd, hn⟩, hw⟩ := aft_yes hz
    clear hz
    rcases hw with ⟨h1, h2, e⟩ | ⟨h1, h2, e⟩
    all_goals
      rw [e] at KA
      have HA := Lib.hid KA
      clear KA e
      go_enter Tryd.func5, Tryd.ntmps5
      go_wp2_with fail
      refine (stepAlive_any _ (G.out.below (up_alloc (Below.refl _ _) _))).mono ?_
      rintro e w1 ⟨rfl, hb⟩
      have A := (Bx.new w 23 [.int .i64 d, .int .i64 n, .bool u]).up hb
      have B1 := Lib.hid (up_trans (up_alloc (Below.refl _ w) _) hb)
      have k0 := A.cell 0 rfl; have k1 := A.cell 1 rfl; have k2 := A.cell 2 rfl
      clear hb A
      go_wp2_with fail
      refine (HA.out _).mono ?_
      rintro e w2 ⟨rfl, hb⟩
      have B2 := Lib.hid (up_trans B1.out hb)
      have m0 := bl_cell hb k0; have m1 := bl_cell hb k1
      clear hb k0 k1 k2
      go_wp2
      go_ret
      exact ⟨rfl, B2.out⟩
end Go.Proofs.YteehfhfdcemgoaaDoor
