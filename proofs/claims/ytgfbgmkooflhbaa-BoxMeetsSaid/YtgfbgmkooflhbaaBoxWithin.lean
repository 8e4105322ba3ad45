/- What box.Within, and the document's own, answer for every two rectangles. -/
import Derived.Test.YtgfbgmkooflhbaaBoxCode
namespace Go.Proofs.Ytgfbgmkooflhbaa
open Go.RowKit
set_option linter.unusedVariables false

theorem max_left {a b : Int} : max a b = a ↔ b ≤ a := by omega
theorem min_left {a b : Int} : min a b = a ↔ a ≤ b := by omega
theorem same_meet (a0 a1 a2 a3 b0 b1 b2 b3 : Int) (h : emp4 a0 a1 a2 a3 = false) :
    same4 (meetR a0 a1 a2 a3 b0 b1 b2 b3).x0 (meetR a0 a1 a2 a3 b0 b1 b2 b3).y0 (meetR a0 a1 a2 a3 b0 b1 b2 b3).x1 (meetR a0 a1 a2 a3 b0 b1 b2 b3).y1 a0 a1 a2 a3 = withinR a0 a1 a2 a3 b0 b1 b2 b3 := by
  unfold withinR
  rw [h, Bool.false_or]
  rw [Bool.eq_iff_iff]
  have h' : ¬ (a2 ≤ a0) ∧ ¬ (a3 ≤ a1) := by simpa [emp4, -Int.not_le] using h
  unfold meetR oz4
  split
  · rename_i g
    have g' : min a2 b2 ≤ max a0 b0 ∨ min a3 b3 ≤ max a1 b1 := by simpa [emp4] using g
    simp [same4]
    constructor <;> intro _ <;> omega
  · simp [same4]
    omega

theorem within_any (a0 a1 a2 a3 b0 b1 b2 b3 : Int) (w : World) :
    Calls Try.prog 14 #[.agg #[.int .i64 a0, .int .i64 a1, .int .i64 a2, .int .i64 a3], .agg #[.int .i64 b0, .int .i64 b1, .int .i64 b2, .int .i64 b3]] w fun e w' => e = .returned (.bool (withinR a0 a1 a2 a3 b0 b1 b2 b3)) ∧ Below w.heap.size w w' := by
  have KE := fun w => empty_b a0 a1 a2 a3 w
  have KM := fun w => meet_any a0 a1 a2 a3 b0 b1 b2 b3 w
  have sm := same_meet a0 a1 a2 a3 b0 b1 b2 b3
  have wt : emp4 a0 a1 a2 a3 = true → withinR a0 a1 a2 a3 b0 b1 b2 b3 = true := fun h => by simp [withinR, h]
  generalize meetR a0 a1 a2 a3 b0 b1 b2 b3 = r at *
  obtain ⟨r0, r1, r2, r3⟩ := r
  have KS := fun w => same_any r0 r1 r2 r3 a0 a1 a2 a3 w
  generalize withinR a0 a1 a2 a3 b0 b1 b2 b3 = V at *
  generalize same4 r0 r1 r2 r3 a0 a1 a2 a3 = S at *
  generalize emp4 a0 a1 a2 a3 = E at *
  obtain ⟨k0, k1, k2, k3, k4, k5, k6, k7, hb⟩ := two_boxes4 w _ 23 23 (.int .i64 a0) (.int .i64 a1) (.int .i64 a2) (.int .i64 a3) (.int .i64 b0) (.int .i64 b1) (.int .i64 b2) (.int .i64 b3) (Below.refl _ _)
  have HE := Lib.hid KE; have HM := Lib.hid KM; have HS := Lib.hid KS; have HB := Lib.hid hb
  clear KE KM KS hb
  cases E
  · obtain rfl : S = V := sm rfl
    clear sm wt
    cases S
    all_goals
      go_enter Try.func14, Try.ntmps14
      go_wp2_with fail
      generalize (w.alloc _).alloc _ = w1 at *
      have j0 := fun u : Later w1 => u.cell k0; have j1 := fun u : Later w1 => u.cell k1; have j2 := fun u : Later w1 => u.cell k2; have j3 := fun u : Later w1 => u.cell k3
      have j4 := fun u : Later w1 => u.cell k4; have j5 := fun u : Later w1 => u.cell k5; have j6 := fun u : Later w1 => u.cell k6; have j7 := fun u : Later w1 => u.cell k7
      clear k0 k1 k2 k3 k4 k5 k6 k7
      refine later_start (w := w1) ?_
      intro u
      refine wp_region_later (by kernel_rfl) (by kernel_rfl) ?_
      repeat (go_big_quiet_step (first
        | (go_at_call 13; with_reducible exact Later.call (HE.out _))
        | (go_at_call 9; with_reducible exact Later.call (HM.out _))
        | (go_at_call 16; with_reducible exact Later.call (HS.out _))))
      refine wpQuiet_nil ?_
      rintro _ ⟨u2, rfl⟩
      clear j0 j1 j2 j3 j4 j5 j6 j7
      go_wp2
      go_ret
      exact ⟨rfl, up_trans HB.out u2.up⟩
  · obtain rfl : V = true := wt rfl
    clear sm wt
    go_enter Try.func14, Try.ntmps14
    go_wp2_with fail
    generalize (w.alloc _).alloc _ = w1 at *
    have j0 := fun u : Later w1 => u.cell k0; have j1 := fun u : Later w1 => u.cell k1; have j2 := fun u : Later w1 => u.cell k2; have j3 := fun u : Later w1 => u.cell k3
    have j4 := fun u : Later w1 => u.cell k4; have j5 := fun u : Later w1 => u.cell k5; have j6 := fun u : Later w1 => u.cell k6; have j7 := fun u : Later w1 => u.cell k7
    clear k0 k1 k2 k3 k4 k5 k6 k7
    refine later_start (w := w1) ?_
    intro u
    refine wp_region_later (by kernel_rfl) (by kernel_rfl) ?_
    repeat (go_big_quiet_step (first
      | (go_at_call 13; with_reducible exact Later.call (HE.out _))
      | (go_at_call 9; with_reducible exact Later.call (HM.out _))
      | (go_at_call 16; with_reducible exact Later.call (HS.out _))))
    refine wpQuiet_nil ?_
    rintro _ ⟨u2, rfl⟩
    clear j0 j1 j2 j3 j4 j5 j6 j7
    go_wp2
    go_ret
    exact ⟨rfl, up_trans HB.out u2.up⟩

theorem refWithin_any (a0 a1 a2 a3 b0 b1 b2 b3 : Int) (w : World) :
    Calls Try.prog 15 #[.agg #[.int .i64 a0, .int .i64 a1, .int .i64 a2, .int .i64 a3], .agg #[.int .i64 b0, .int .i64 b1, .int .i64 b2, .int .i64 b3]] w fun e w' => e = .returned (.bool (withinR a0 a1 a2 a3 b0 b1 b2 b3)) ∧ Below w.heap.size w w' := by
  have KE := fun w => refEmpty_any a0 a1 a2 a3 w
  obtain ⟨V, hV⟩ : ∃ V, withinR a0 a1 a2 a3 b0 b1 b2 b3 = V := ⟨_, rfl⟩
  rw [hV]
  unfold withinR at hV
  generalize emp4 a0 a1 a2 a3 = E at *
  have HE := Lib.hid KE
  clear KE
  cases E
  · rw [Bool.false_or] at hV
    by_cases g0 : b0 ≤ a0 <;> by_cases g1 : a2 ≤ b2 <;> by_cases g2 : b1 ≤ a1 <;> by_cases g3 : a3 ≤ b3
    all_goals
      simp [g0, g1, g2, g3] at hV
      subst hV
      go_enter Try.func15, Try.ntmps15
      go_wp2_with (go_at_call 12; refine (HE.out _).mono ?_; rintro e w' ⟨rfl, rfl⟩)
      go_ret
      exact ⟨ret_bool (by first | rfl | (simp; omega)), up_alloc (up_alloc (up_alloc (Below.refl _ _) _) _) _⟩
  · simp at hV
    subst hV
    go_enter Try.func15, Try.ntmps15
    go_wp2_with (go_at_call 12; refine (HE.out _).mono ?_; rintro e w' ⟨rfl, rfl⟩)
    go_ret
    exact ⟨rfl, up_alloc (up_alloc (up_alloc (Below.refl _ _) _) _) _⟩
end Go.Proofs.Ytgfbgmkooflhbaa
