/- The chapter's example holds: the laws' own alive answers true, where the library's table of powers is as the program's text lays it. -/
import Derived.Test.YtppifnglkjcclaaDoorTurnText
namespace Go.Proofs.YtppifnglkjcclaaDoor
open Go.RowKit
set_option linter.unusedVariables false

set_option maxHeartbeats 400000 in
theorem alive_any (w : World) (hg : Tab w) : Calls Tryd.prog 6 #[] w fun e w' => e = .returned (.bool true) ∧ Below w.heap.size w w' := by
  have KF := fun w => find_yes 2 (by decide) ⟨#[114, 50]⟩ (by decide +kernel) w
  have KH := fun w => then_any 1 1 w
  rw [show thenT 1 1 = 2 by decide +kernel] at KH
  have KT := fun w => text_any 6 w
  rw [show txt 6 = [109, 50] by decide +kernel] at KT
  have KM := fun w => mirrors_any 6 w
  rw [show mir 6 = true by decide +kernel] at KM
  have HF := Lib.hid KF; have HH := Lib.hid KH; have HT := Lib.hid KT; have HM := Lib.hid KM; have G := Lib.hid hg
  clear KF KH KT KM hg
  go_enter Tryd.func6, Tryd.ntmps6
  go_wp2_with fail
  refine (HF.out _ G.out).mono ?_
  rintro e w1 ⟨rfl, hb⟩
  have HB := Lib.hid hb
  clear hb
  go_wp2_with (first
    | (go_at_call 12; refine (HH.out _).mono ?_; rintro e w' ⟨rfl, rfl⟩)
    | (go_at_call 17; refine (HT.out _ (G.out.below HB.out)).mono ?_; rintro e w2 ⟨rfl, hb⟩; have HB2 := Lib.hid hb; clear hb)
    | (go_at_call 10; refine (HM.out _).mono ?_; rintro e w' ⟨rfl, rfl⟩))
  go_ret
  exact ⟨rfl, up_trans HB.out HB2.out⟩
end Go.Proofs.YtppifnglkjcclaaDoor
