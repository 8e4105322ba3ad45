/- The law NumAdds answers true for every two ints: sums, differences and products are the true ones, or told as none, and what is added is taken away again; no condition. -/
import Derived.Test.YtpjnignkblaneaaNumFloor
import Derived.RowKit3
import Derived.OpenShut
namespace Go.Proofs.Ytpjnignkblaneaa
open Go.RowKit NumMath
set_option linter.unusedVariables false

theorem ret_bool {c : Bool} (h : c = true) : Ending.returned (.bool c) = .returned (.bool true) := by rw [h]
set_option maxHeartbeats 400000 in
theorem walkNumAdds (a b : Int) (h0 : (Lit.int .i64 a).wf = true) (h1 : (Lit.int .i64 b).wf = true) (w : World) :
    Calls Try.prog 3 #[.int .i64 a, .int .i64 b] w fun e w' => e = .returned (.bool true) ∧ Grown w w' := by
  obtain ⟨a0, a1⟩ := i64_bd h0
  obtain ⟨b0, b1⟩ := i64_bd h1
  have k1 := fun w => add_any a b w a0 a1 b0 b1
  have k2 := fun w => sub_any a b w a0 a1 b0 b1
  have k3 := fun w => mul_any a b w a0 a1 b0 b1
  have k4 := fun w => refAdd_any a b w a0 a1 b0 b1
  have k5 := fun w => refMulDiv_any a b 1 w a0 a1 b0 b1 (by decide) (by decide)
  generalize md a b 1 = p at *
  obtain ⟨q, x⟩ := p
  have K3 := Lib.hid k3; have K5 := Lib.hid k5; clear k3 k5
  by_cases f : -9223372036854775808 ≤ a + b ∧ a + b ≤ 9223372036854775807
  · rw [opt_yes _ f.1 f.2] at k1 k4
    have k6 := fun w => sub_any (a + b) b w f.1 f.2 b0 b1
    rw [show a + b - b = a from by omega, opt_yes a a0 a1] at k6
    obtain ⟨f0, f1⟩ := f
    have K1 := Lib.hid k1; have K4 := Lib.hid k4; have K6 := Lib.hid k6; clear k1 k4 k6
    by_cases g : -9223372036854775808 ≤ a - b ∧ a - b ≤ 9223372036854775807
    · rw [opt_yes _ g.1 g.2] at k2
      have k7 := fun w => add_any (a - b) b w g.1 g.2 b0 b1
      rw [show a - b + b = a from by omega, opt_yes a a0 a1] at k7
      obtain ⟨g0, g1⟩ := g
      have K2 := Lib.hid k2; have K7 := Lib.hid k7; clear k2 k7
      by_cases hb : 0 ≤ b
      all_goals
        go_enter Try.func3, Try.ntmps3
        go_wp2_with fail
        refine (alive_any _).mono ?_
        rintro e w' ⟨rfl, n, rfl⟩
        go_wp2_with fail
        refine (K1.out _).mono ?_
        rintro e w' ⟨rfl, rfl⟩
        go_wp2_with fail
        refine (K2.out _).mono ?_
        rintro e w' ⟨rfl, rfl⟩
        go_wp2_with fail
        refine (K3.out _).mono ?_
        rintro e w' ⟨rfl, rfl⟩
        go_wp2_with fail
        refine (K4.out _).mono ?_
        rintro e w' ⟨rfl, rfl⟩
        go_wp2_with fail
        refine (K5.out _).mono ?_
        rintro e w' ⟨rfl, rfl⟩
        go_wp2_with fail
        refine (K6.out _).mono ?_
        rintro e w' ⟨rfl, rfl⟩
        go_wp2_with fail
        refine (K7.out _).mono ?_
        rintro e w' ⟨rfl, rfl⟩
        go_wp2
        go_ret
        refine ⟨ret_bool ?_, grown_drewN _ _⟩
        simp
        omega
    · rw [opt_no _ (by omega)] at k2
      have K2 := Lib.hid k2; clear k2
      have hb : (b == 0) = false := by simp; omega
      by_cases ha : a < 0
      all_goals
        go_enter Try.func3, Try.ntmps3
        go_wp2_with fail
        refine (alive_any _).mono ?_
        rintro e w' ⟨rfl, n, rfl⟩
        go_wp2_with fail
        refine (K1.out _).mono ?_
        rintro e w' ⟨rfl, rfl⟩
        go_wp2_with fail
        refine (K2.out _).mono ?_
        rintro e w' ⟨rfl, rfl⟩
        go_wp2_with fail
        refine (K3.out _).mono ?_
        rintro e w' ⟨rfl, rfl⟩
        go_wp2_with fail
        refine (K4.out _).mono ?_
        rintro e w' ⟨rfl, rfl⟩
        go_wp2_with fail
        refine (K5.out _).mono ?_
        rintro e w' ⟨rfl, rfl⟩
        go_wp2_with fail
        refine (K6.out _).mono ?_
        rintro e w' ⟨rfl, rfl⟩
        go_wp2
        go_ret
        refine ⟨ret_bool ?_, grown_drewN _ _⟩
        simp
        omega
  · rw [opt_no _ (by omega)] at k1 k4
    have K1 := Lib.hid k1; have K4 := Lib.hid k4; clear k1 k4
    have g : -9223372036854775808 ≤ a - b ∧ a - b ≤ 9223372036854775807 := by omega
    rw [opt_yes _ g.1 g.2] at k2
    have k7 := fun w => add_any (a - b) b w g.1 g.2 b0 b1
    rw [show a - b + b = a from by omega, opt_yes a a0 a1] at k7
    obtain ⟨g0, g1⟩ := g
    have K2 := Lib.hid k2; have K7 := Lib.hid k7; clear k2 k7
    by_cases hb : 0 ≤ b
    all_goals
      go_enter Try.func3, Try.ntmps3
      go_wp2_with fail
      refine (alive_any _).mono ?_
      rintro e w' ⟨rfl, n, rfl⟩
      go_wp2_with fail
      refine (K1.out _).mono ?_
      rintro e w' ⟨rfl, rfl⟩
      go_wp2_with fail
      refine (K2.out _).mono ?_
      rintro e w' ⟨rfl, rfl⟩
      go_wp2_with fail
      refine (K3.out _).mono ?_
      rintro e w' ⟨rfl, rfl⟩
      go_wp2_with fail
      refine (K4.out _).mono ?_
      rintro e w' ⟨rfl, rfl⟩
      go_wp2_with fail
      refine (K5.out _).mono ?_
      rintro e w' ⟨rfl, rfl⟩
      go_wp2_with fail
      refine (K7.out _).mono ?_
      rintro e w' ⟨rfl, rfl⟩
      go_wp2
      go_ret
      refine ⟨ret_bool ?_, grown_drewN _ _⟩
      simp
      omega
end Go.Proofs.Ytpjnignkblaneaa
