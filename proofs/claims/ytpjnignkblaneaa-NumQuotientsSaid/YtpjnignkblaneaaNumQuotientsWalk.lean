/- The law NumQuotients answers true for every two ints: quotients are cut downwards, and what is left is between 0 and the divisor, on its side; no condition. -/
import Derived.Test.YtpjnignkblaneaaNumFloor
import Derived.RowKit3
import Derived.OpenShut
namespace Go.Proofs.Ytpjnignkblaneaa
open Go.RowKit NumMath
set_option linter.unusedVariables false

theorem md_one (a b : Int) (hb : b ≠ 0) : md a 1 b = opt (fl a b) := by unfold md; rw [if_neg hb, Int.mul_one]
theorem opt_cases (n : Int) : (opt n = (n, true) ∧ -9223372036854775808 ≤ n ∧ n ≤ 9223372036854775807) ∨ opt n = (0, false) := by
  by_cases h : -9223372036854775808 ≤ n ∧ n ≤ 9223372036854775807
  · exact .inl ⟨opt_yes n h.1 h.2, h.1, h.2⟩
  · exact .inr (opt_no n (by omega))
theorem back_of (a b q r : Int) (a0 : -9223372036854775808 ≤ a) (a1 : a ≤ 9223372036854775807) (h : r = a - b * q) : wrap64 (wrap64 (q * b) + r) = a := by
  rw [Int.mul_comm] at h
  unfold wrap64
  generalize q * b = p at *
  omega
set_option maxHeartbeats 400000 in
theorem walkNumQuotients (a b : Int) (h0 : (Lit.int .i64 a).wf = true) (h1 : (Lit.int .i64 b).wf = true) (w : World) :
    Calls Try.prog 5 #[.int .i64 a, .int .i64 b] w fun e w' => e = .returned (.bool true) ∧ Grown w w' := by
  obtain ⟨a0, a1⟩ := i64_bd h0
  obtain ⟨b0, b1⟩ := i64_bd h1
  have k1 := fun w => floor_any a b w a0 a1 b0 b1
  have k2 := fun w => rest_any a b w a0 a1 b0 b1
  have k3 := fun w => refMulDiv_any a 1 b w a0 a1 (by decide) (by decide) b0 b1
  by_cases hb : b = 0
  · subst hb
    rw [show md a 1 0 = (0, false) from rfl] at k1 k3
    rw [show rest a 0 = (0, false) from rfl] at k2
    have K1 := Lib.hid k1; have K2 := Lib.hid k2; have K3 := Lib.hid k3; clear k1 k2 k3
    go_enter Try.func5, Try.ntmps5
    go_wp2_with fail
    refine (alive_any _).mono ?_
    rintro e w' ⟨rfl, n, rfl⟩
    go_wp2_with fail
    refine (K1.out _).mono ?_
    rintro e w' ⟨rfl, rfl⟩
    go_wp2_with fail
    refine (K2.out _).mono ?_
    rintro e w' ⟨rfl, rfl⟩
    go_wp2_with fail
    refine (K3.out _).mono ?_
    rintro e w' ⟨rfl, rfl⟩
    go_wp2
    go_ret
    exact ⟨rfl, grown_drewN _ _⟩
  have hz : (b == 0) = false := by simpa using hb
  have hz2 : (b != 0) = true := by simpa using hb
  obtain ⟨s1, s2⟩ := rs_bd a b hb
  rw [show rest a b = (rs a b, true) from by unfold rest; rw [if_neg hb]] at k2
  rw [md_one a b hb] at k1 k3
  obtain ⟨r, hr⟩ : ∃ r, rs a b = r := ⟨_, rfl⟩
  rw [hr] at k2 s1 s2
  unfold rs at hr
  rcases opt_cases (fl a b) with ⟨e, q0, q1⟩ | e
  · rw [e] at k1 k3
    have bk := back_of a b (fl a b) r a0 a1 hr.symm
    generalize fl a b = q at *
    have K1 := Lib.hid k1; have K2 := Lib.hid k2; have K3 := Lib.hid k3; clear k1 k2 k3 hr e
    by_cases hp : 0 < b
    · obtain ⟨r0, r1⟩ := s1 hp
      clear s1 s2
      go_enter Try.func5, Try.ntmps5
      go_wp2_with fail
      refine (alive_any _).mono ?_
      rintro e w' ⟨rfl, n, rfl⟩
      go_wp2_with fail
      refine (K1.out _).mono ?_
      rintro e w' ⟨rfl, rfl⟩
      go_wp2_with fail
      refine (K2.out _).mono ?_
      rintro e w' ⟨rfl, rfl⟩
      go_wp2_with fail
      refine (K3.out _).mono ?_
      rintro e w' ⟨rfl, rfl⟩
      go_wp2
      go_ret
      exact ⟨rfl, grown_drewN _ _⟩
    · have hn : b < 0 := by omega
      obtain ⟨r0, r1⟩ := s2 hn
      clear s1 s2
      go_enter Try.func5, Try.ntmps5
      go_wp2_with fail
      refine (alive_any _).mono ?_
      rintro e w' ⟨rfl, n, rfl⟩
      go_wp2_with fail
      refine (K1.out _).mono ?_
      rintro e w' ⟨rfl, rfl⟩
      go_wp2_with fail
      refine (K2.out _).mono ?_
      rintro e w' ⟨rfl, rfl⟩
      go_wp2_with fail
      refine (K3.out _).mono ?_
      rintro e w' ⟨rfl, rfl⟩
      go_wp2
      go_ret
      exact ⟨rfl, grown_drewN _ _⟩
  · rw [e] at k1 k3
    have K1 := Lib.hid k1; have K2 := Lib.hid k2; have K3 := Lib.hid k3; clear k1 k2 k3 hr e
    by_cases hp : 0 < b
    · obtain ⟨r0, r1⟩ := s1 hp
      clear s1 s2
      go_enter Try.func5, Try.ntmps5
      go_wp2_with fail
      refine (alive_any _).mono ?_
      rintro e w' ⟨rfl, n, rfl⟩
      go_wp2_with fail
      refine (K1.out _).mono ?_
      rintro e w' ⟨rfl, rfl⟩
      go_wp2_with fail
      refine (K2.out _).mono ?_
      rintro e w' ⟨rfl, rfl⟩
      go_wp2_with fail
      refine (K3.out _).mono ?_
      rintro e w' ⟨rfl, rfl⟩
      go_wp2
      go_ret
      exact ⟨rfl, grown_drewN _ _⟩
    · have hn : b < 0 := by omega
      obtain ⟨r0, r1⟩ := s2 hn
      clear s1 s2
      go_enter Try.func5, Try.ntmps5
      go_wp2_with fail
      refine (alive_any _).mono ?_
      rintro e w' ⟨rfl, n, rfl⟩
      go_wp2_with fail
      refine (K1.out _).mono ?_
      rintro e w' ⟨rfl, rfl⟩
      go_wp2_with fail
      refine (K2.out _).mono ?_
      rintro e w' ⟨rfl, rfl⟩
      go_wp2_with fail
      refine (K3.out _).mono ?_
      rintro e w' ⟨rfl, rfl⟩
      go_wp2
      go_ret
      exact ⟨rfl, grown_drewN _ _⟩
end Go.Proofs.Ytpjnignkblaneaa
