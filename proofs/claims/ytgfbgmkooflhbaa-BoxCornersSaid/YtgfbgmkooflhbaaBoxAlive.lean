/- The chapter's example holds: the laws' own alive answers true. -/
import Derived.Test.YtgfbgmkooflhbaaBoxSplit
namespace Go.Proofs.Ytgfbgmkooflhbaa
open Go.RowKit
set_option linter.unusedVariables false

set_option maxHeartbeats 400000 in
theorem alive_any (w : World) : Calls Try.prog 8 #[] w fun e w' => e = .returned (.bool true) ∧ Below w.heap.size w w' := by
  have KM := fun w => meet_any 0 0 4 4 2 3 9 9 w
  rw [show meetR 0 0 4 4 2 3 9 9 = ⟨2, 3, 4, 4⟩ from rfl] at KM
  have KE := fun w => empty_any 2 3 4 4 w
  rw [show emp4 2 3 4 4 = false by decide] at KE
  have KS := fun w => split_any 2 3 4 4 true 3 w
  rw [show splitR 2 3 4 4 true 3 = [⟨2, 3, 3, 4⟩, ⟨3, 3, 4, 4⟩] from rfl] at KS
  have HM := Lib.hid KM; have HE := Lib.hid KE; have HS := Lib.hid KS
  clear KM KE KS
  go_enter Try.func8, Try.ntmps8
  go_wp2_with fail
  refine (HM.out _).mono ?_
  rintro e w1 ⟨rfl, hb⟩
  have HB := Lib.hid hb
  clear hb
  go_wp2_with (go_at_call 13; refine (HE.out _).mono ?_; rintro e w' ⟨rfl, rfl⟩)
  refine (HS.out _).mono ?_
  rintro e w2 ⟨v, rfl, hv, hb⟩
  obtain ⟨g, rfl⟩ : ∃ g, v = .slice (some ⟨g, 0, none⟩) 2 2 := by
    rcases hv with ⟨h, _⟩ | ⟨g, _, h, _⟩
    · cases h
    · exact ⟨g, h⟩
  have HB2 := Lib.hid hb
  clear hb hv
  go_wp2
  go_ret
  exact ⟨rfl, up_trans (up_trans HB.out (up_alloc (up_alloc (Below.refl _ _) _) _)) HB2.out⟩
end Go.Proofs.Ytgfbgmkooflhbaa
