/- The law SpanWithin answers true for every two spans: a span is within another one just if it is empty, or its ends lie between the other's. -/
import Derived.Test.YtbaadohjlinlpaaSpanRow
namespace Go.Proofs.Ytbaadohjlinlpaa
open Go.RowKit
set_option linter.unusedVariables false

theorem walk_within (a0 a1 b0 b1 : Int) (c d : Bool) (w : World) (hc1 : emp a0 a1 = c) (hd : withinS a0 a1 b0 b1 = d) (x : Bool) (y : Bool) (hx : decide (b0 ≤ a0) = x) (hy : decide (a1 ≤ b1) = y) (hd2 : d = (c || (x && y))) :
    Calls Try.prog 4 #[.agg #[.int .i64 a0, .int .i64 a1], .agg #[.int .i64 b0, .int .i64 b1]] w fun e w' => e = .returned (.bool true) ∧ Below w.heap.size w w' := by
  have KE := fun w => lawEmpty_b a0 a1 w
  have KW := fun w => within_any a0 a1 b0 b1 w
  rw [hc1] at KE
  rw [hd] at KW
  subst hd2
  cases c <;> cases x <;> cases y
  all_goals
    have HE := Lib.hid KE
    have HW := Lib.hid KW
    clear KE KW hc1 hd
    go_enter Try.func4, Try.ntmps4
    go_wp2_with (go_at_call 7; refine (alive_any _).mono ?_; rintro e w1 ⟨rfl, hb⟩; obtain ⟨k0, k1, k2, k3, hb2⟩ := two_boxes _ _ _ _ _ _ hb; have HB2 := Lib.hid hb2; clear hb hb2)
    have j0 := fun u : Later w1 => u.cell k0
    have j1 := fun u : Later w1 => u.cell k1
    have j2 := fun u : Later w1 => u.cell k2
    have j3 := fun u : Later w1 => u.cell k3
    clear k0 k1 k2 k3
    refine later_start (w := w1) ?_
    intro u
    refine wp_region_later (by kernel_rfl) (by kernel_rfl) ?_
    repeat (go_big_quiet_step (first
      | (go_at_call 15; exact Later.call (HW.out _))
      | (go_at_call 13; exact Later.call (HE.out _))))
    refine wpQuiet_nil ?_
    rintro _ ⟨⟨w2, hb⟩, rfl⟩
    have HB3 := Lib.hid (up_trans HB2.out hb)
    clear hb j0 j1 j2 j3
    go_wp2
    go_ret
    exact ⟨rfl, HB3.out⟩
theorem walkSpanWithin (a0 a1 b0 b1 : Int) (w : World) (h0 : (Lit.int .i64 a0).wf = true) (h1 : (Lit.int .i64 a1).wf = true) (h2 : (Lit.int .i64 b0).wf = true) (h3 : (Lit.int .i64 b1).wf = true) :
    Calls Try.prog 4 #[.agg #[.int .i64 a0, .int .i64 a1], .agg #[.int .i64 b0, .int .i64 b1]] w fun e w' => e = .returned (.bool true) ∧ Below w.heap.size w w' :=
  walk_within a0 a1 b0 b1 _ _ w rfl rfl _ _ rfl rfl rfl
end Go.Proofs.Ytbaadohjlinlpaa
