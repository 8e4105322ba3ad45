/- gatherumlaw13.alive answers true. -/
import Derived.Test.YtnofncibplgmpaaUnfoldOf
namespace Go.Proofs.Ytnofncibplgmpaa
open Go.RowKit
set_option linter.unusedVariables false

def s21 : Sc := ⟨2, 1, [⟨1, 1, false⟩]⟩
theorem right_21 : rightM s21 = true := by decide +kernel
theorem pan_21 : panL s21 = [⟨0, true, false⟩, ⟨1, false, false⟩] := by decide +kernel
theorem len_21 : (pcL s21).length = 2 := by decide +kernel

theorem alive_of (w : World) :
    Calls Try.prog 7 #[.agg #[.int .i64 2, .int .i64 1, .slice (some ⟨w.heap.size, 0, none⟩) 1 1]] (w.alloc (.cells #[.int .i64 1, .int .i64 1, .bool false] 37)) fun e w' => ∃ g, e = .returned (.slice (some ⟨g, 0, none⟩) 2 2) ∧ PnRow w' g [⟨0, true, false⟩, ⟨1, false, false⟩] ∧ w.heap.size ≤ g ∧ Below w.heap.size w w' := by
  have hb := up_alloc (Below.refl _ w) (.cells #[.int .i64 1, .int .i64 1, .bool false] 37)
  have hI : InL (w.alloc (.cells #[.int .i64 1, .int .i64 1, .bool false] 37)) (some ⟨w.heap.size, 0, none⟩) s21.l := by
    refine .inr ⟨_, 0, rfl, ?_⟩
    intro j p hp
    match j, hp with
    | 0, hp =>
      cases hp
      refine ⟨?_, ?_, ?_⟩ <;> simp [go_sem]
    | j + 1, hp => simp [s21] at hp
  have K := unfOf_yes s21 (some ⟨w.heap.size, 0, none⟩) 1 _ hI right_21
  rw [len_21, pan_21] at K
  refine K.mono ?_
  rintro e w' ⟨g, h1, h2, h3, h4⟩
  simp only [World.size_alloc] at h3
  exact ⟨g, h1, h2, by omega, up_trans hb h4⟩

theorem unfAlive_any (w : World) : Calls Try.prog 6 #[] w fun e w' => e = .returned (.bool true) ∧ Below w.heap.size w w' := by
  have q0 : ∀ w, (binOp .eql 31 (.agg #[.int .i64 0, .bool true, .bool false]) (.agg #[.int .i64 0, .bool true, .bool false])).run Try.prog w = .ok (.bool true) w := fun w => by kernel_rfl
  have q1 : ∀ w, (binOp .eql 31 (.agg #[.int .i64 1, .bool false, .bool false]) (.agg #[.int .i64 1, .bool false, .bool false])).run Try.prog w = .ok (.bool true) w := fun w => by kernel_rfl
  go_enter Try.func6, Try.ntmps6
  go_wp2_with fail
  refine (alive_of w).mono ?_
  rintro e w1 ⟨g, rfl, hr, hg, hb⟩
  obtain ⟨a0, a1, a2⟩ := hr.cells (j := 0) rfl
  obtain ⟨b0, b1, b2⟩ := hr.cells (j := 1) rfl
  have HB := Lib.hid hb
  clear hb hr
  go_wp2_with fail
  refine (unfUp_any _ _ _ _).mono ?_
  rintro e w2 ⟨rfl, hb⟩
  have B2 := Lib.hid (up_trans HB.out hb)
  clear hb
  go_wp2
  go_ret
  exact ⟨rfl, B2.out⟩
end Go.Proofs.Ytnofncibplgmpaa
